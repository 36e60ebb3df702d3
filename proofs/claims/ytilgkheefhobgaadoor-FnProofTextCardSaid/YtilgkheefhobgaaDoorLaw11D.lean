/- A law of stage 11: texts of proofs are read. It answers true, whatever the code. No condition. -/
import Derived.Test.YtilgkheefhobgaaDoorMerged0
import Derived.Test.YtilgkheefhobgaaDoorDrawPu
import Derived.Test.YtilgkheefhobgaaDoorMerged34
import Derived.Test.YtilgkheefhobgaaDoorMerged27
import Derived.Test.YtilgkheefhobgaaDoorMerged10
import Derived.Deep.RegionHeld3
import Derived.Deep.Cut
namespace Go.Proofs.YtilgkheefhobgaaDoor
open Go.RowKit Go.Joins
theorem read_small11 {p : Int} {s : List Cl} {ms : List (Int × Int)} {bs : List Nat} : S64 (foundS (readF p s ms bs)) ∧ (foundS (readF p s ms bs)).length ≤ 15 := by
  cases h : readF p s ms bs with
  | none => exact ⟨fun s hs => (by cases hs), Nat.zero_le _⟩
  | some t =>
    obtain ⟨_, h2, _⟩ := readF_iff.1 h
    obtain ⟨_, hf, hsz⟩ := text_read _ _ _ _ _ h2
    have := hsz (by omega)
    exact ⟨flat_S64 t 0 hf (by omega), by show (t.flat 0).length ≤ 15; rw [PT.flat_len]; omega⟩
theorem text_small : ∀ t : PT, t.fine = true → ∀ x ∈ t.text, x < 256
  | .leaf g, h, x, hx => by
    rw [PT.fine, decide_eq_true_eq] at h
    rw [PT.text] at hx
    split at hx
    · rw [List.mem_singleton] at hx; omega
    · rw [List.mem_singleton] at hx; omega
  | .node k a b, h, x, hx => by
    rw [PT.fine, Bool.and_eq_true, Bool.and_eq_true, decide_eq_true_eq] at h
    rw [PT.text] at hx
    simp only [List.mem_append, List.mem_cons, List.not_mem_nil, or_false] at hx
    rcases hx with (((hx | hx) | hx) | hx) | hx
    · rcases hx with rfl | rfl <;> omega
    · exact text_small a h.2.1 x hx
    · omega
    · exact text_small b h.2.2 x hx
    · omega
theorem nats8_text {p : Int} {s : List Cl} {ms : List (Int × Int)} {sp : List Sp3} {fi : Int} : nats8 (tbF p s ms sp fi) = textF p s ms sp fi := by
  cases h : provesF p s ms sp fi with
  | false => unfold tbF nats8; rw [textF_no h]; rfl
  | true =>
    obtain ⟨h1, h2, _⟩ := provesF_iff.1 h
    have hf := proves_fine h1 h2 (proves_tree h).1
    have hsm := text_small _ hf
    unfold tbF nats8
    rw [textF_yes h]
    generalize (treeOf sp (sp.length + 1) fi).text = l at *
    rw [List.map_map]
    conv => rhs; rw [← List.map_id l]
    refine List.map_congr_left fun x hx => ?_
    have := hsm x hx
    simp
    omega
theorem text_read11 {p : Int} {s : List Cl} {ms : List (Int × Int)} {sp : List Sp3} {fi : Int} (h : provesF p s ms sp fi = true) :
    (readF p s ms (nats8 (tbF p s ms sp fi))).isSome = true ∧ tbF p s ms (foundS (readF p s ms (nats8 (tbF p s ms sp fi)))) (foundG (readF p s ms (nats8 (tbF p s ms sp fi)))) = tbF p s ms sp fi ∧ (foundS (readF p s ms (nats8 (tbF p s ms sp fi)))).length = sp.length ∧ tbF p s ms sp fi ≠ [] := by
  have hb : nats8 (tbF p s ms sp fi) = textF p s ms sp fi := nats8_text
  have hr := read_textF h
  obtain ⟨h1, h2⟩ := text_flat h
  rw [hb, hr]
  refine ⟨rfl, ?_, h2, ?_⟩
  · show (textF p s ms ((treeOf sp (sp.length + 1) fi).flat 0) ((treeOf sp (sp.length + 1) fi).tgt 0)).map UInt8.ofNat = (textF p s ms sp fi).map UInt8.ofNat
    rw [h1]
  · intro hn
    unfold tbF at hn
    rw [List.map_eq_nil_iff, textF_nil] at hn
    rw [h] at hn; cases hn
end Go.Proofs.YtilgkheefhobgaaDoor
namespace Go.Proofs.YtilgkheefhobgaaDoor.fnProofText
open Go.ChangeShapes Go.WideShapes Go.ChangeAt Go.RowKit Go.Joins
attribute [local irreducible] holds tabN tabV holdsV sameV followsV alwaysV matterV mirV mirOk mcells tmOf claimOk mayT mayV ctabV ctabN storyV storyOk storyN storyT ctermV ctermL denyV denyOk ccells clashV followsF provesF findF foundS foundG tbF readF textF nats8 scells
open Go.ChangeMaps (open_string shut_string)
set_option linter.unusedVariables false
set_option maxRecDepth 100000 in
set_option maxHeartbeats 8000000 in
theorem walk (a0 : Value) (n0 : Nat) (w : World) (w0 : RdBytes w w.heap.size a0 n0) :
    Calls Tryd.prog 3 #[a0] w fun e w' => e = .returned (.bool true) ∧ Below w.heap.size w w' := by
  have hr := w0
  by_cases hbig : n0 ≤ 1048576
  case neg =>
    obtain ⟨ao, cap, rfl, hl, hm, hc⟩ := w0
    have hbig' := code_big hbig
    unfold maxLen at hm
    clear hc hr hbig
    go_enter Tryd.func3, Tryd.ntmps3
    go_wp2
    go_ret
    exact ⟨rfl, Below.refl _ _⟩
  have hbig' : (n0 : Int) ≤ 1048576 := by omega
  clear hbig
  obtain ⟨ao, cap, rfl, hl, hm, hc⟩ := w0
  have Hr := Lib.hid hr
  clear hc hr hl hm
  go_enter Tryd.func3, Tryd.ntmps3
  go_wp2_with fail
  refine (drawProofText _ _ _ Hr.out).mono ?_
  rintro e w1 ⟨p, v, qs, g, cap, ms, fi, pv, sp, hp1, hp4, rfl, hst, hqs, hq7, hown, hi, hn, hpo, hs64, hl16, hfi, hB1⟩
  have HS1 := Lib.hid hst.rd
  have HM1 := Lib.hid (RdMarks.of_own hown hi)
  have HP1 := Lib.hid (RdSplits.of_own hpo hs64)
  obtain ⟨qo, qcap, rfl⟩ := own_len hst.1
  obtain ⟨po, pcap, rfl⟩ := own_len hpo
  clear hst hown hi hpo
  obtain ⟨w2, hw2, xP, yP, hb2, hs2⟩ := new_two w1 (.int .i64 fi) (.slice po sp.length pcap) 27
  have hs12 := hb2.size
  have HS2 := Lib.hid ((HS1.out.below (w' := w2) hb2.block).mono hb2.size)
  have HM2 := Lib.hid ((HM1.out.below (w' := w2) hb2.block).mono hb2.size)
  have HP2 := Lib.hid ((HP1.out.below (w' := w2) hb2.block).mono hb2.size)
  have hB2 : Below w.heap.size w w2 := hB1.trans (hb2.mono hB1.size)
  have hszP : w1.heap.size < w2.heap.size := hs2
  clear hb2 hs2
  have htx := fun B u u2 pv W h h2 h3 h4 => implProofText p fi qs ms sp B u u2 pv W h h2 h3 h4 hfi
  have hts := fun B u u2 pv W h h2 h3 h4 => specProofText p fi qs ms sp B u u2 pv W h h2 h3 h4
  have hpr := fun B u u2 pv W h h2 h3 h4 => implProofOk p fi qs ms sp B u u2 pv W h h2 h3 h4 hfi
  have hrp := fun B u u2 W h h2 h3 => implReadProof p qs ms (tbF p (qs.map (·.2)) ms sp fi) (by have := tbF_len (p := p) (s := qs.map (·.2)) (ms := ms) (sp := sp) (fi := fi); omega) B u u2 W h h2 h3
  have htx2 := fun B u u2 pv W h h2 h3 h4 => implProofText p (foundG (readF p (qs.map (·.2)) ms (nats8 (tbF p (qs.map (·.2)) ms sp fi)))) qs ms (foundS (readF p (qs.map (·.2)) ms (nats8 (tbF p (qs.map (·.2)) ms sp fi)))) B u u2 pv W h h2 h3 h4 (read_i64 _ _ _ _)
  obtain ⟨hs642, _⟩ := read_small11 (p := p) (s := qs.map (·.2)) (ms := ms) (bs := nats8 (tbF p (qs.map (·.2)) ms sp fi))
  have hyes := fun h => text_read11 (p := p) (s := qs.map (·.2)) (ms := ms) (sp := sp) (fi := fi) h
  have hno := fun h => tbF_no (p := p) (s := qs.map (·.2)) (ms := ms) (sp := sp) (fi := fi) h
  generalize foundS (readF p (qs.map (·.2)) ms (nats8 (tbF p (qs.map (·.2)) ms sp fi))) = sp2 at *
  generalize foundG (readF p (qs.map (·.2)) ms (nats8 (tbF p (qs.map (·.2)) ms sp fi))) = fi2 at *
  generalize (readF p (qs.map (·.2)) ms (nats8 (tbF p (qs.map (·.2)) ms sp fi))).isSome = ok at *
  generalize tbF p (qs.map (·.2)) ms sp2 fi2 = tb2 at *
  generalize tbF p (qs.map (·.2)) ms sp fi = tb at *
  have Hts := Lib.hid hts
  have Htx := Lib.hid htx
  have Htx2 := Lib.hid htx2
  have Hpr := Lib.hid hpr
  have Hrp := Lib.hid hrp
  have Hs642 := Lib.hid hs642
  clear hts htx htx2 hpr hrp hs642 hs64 hl16 hfi
  generalize hL : sp.length = L at *
  have HL := Lib.hid hL; clear hL
  go_upto_region 4 with fail
  rw [← hw2]
  clear hw2
  go_wp2_with fail
  refine (Htx.out _ _ _ _ _ HS2.out HM2.out HP2.out (Nat.le_refl _)).mono ?_
  rintro e w3 ⟨rfl, hb3⟩
  have hs23 := hb3.size
  have HS3 := Lib.hid ((HS2.out.below (w' := w3) hb3.block).mono hb3.size)
  have HM3 := Lib.hid ((HM2.out.below (w' := w3) hb3.block).mono hb3.size)
  have HP3 := Lib.hid ((HP2.out.below (w' := w3) hb3.block).mono hb3.size)
  have hB3 : Below w.heap.size w w3 := hB2.trans (hb3.mono hB2.size)
  have xP' := (hb3.cell (p := ⟨w1.heap.size, 0, none⟩) (by show w1.heap.size < w2.heap.size; omega)).trans xP
  have yP' := (hb3.cell (p := ⟨w1.heap.size, 1, none⟩) (by show w1.heap.size < w2.heap.size; omega)).trans yP
  clear xP yP
  have xP := xP'
  have yP := yP'
  clear xP' yP'
  clear hb3
  go_wp2_with fail
  refine (Hts.out _ _ _ _ _ HS3.out HM3.out HP3.out (Nat.le_refl _)).mono ?_
  rintro e w4 ⟨rfl, hb4⟩
  have hs34 := hb4.size
  have HS4 := Lib.hid ((HS3.out.below (w' := w4) hb4.block).mono hb4.size)
  have HM4 := Lib.hid ((HM3.out.below (w' := w4) hb4.block).mono hb4.size)
  have HP4 := Lib.hid ((HP3.out.below (w' := w4) hb4.block).mono hb4.size)
  have hB4 : Below w.heap.size w w4 := hB3.trans (hb4.mono hB3.size)
  have xP' := (hb4.cell (p := ⟨w1.heap.size, 0, none⟩) (by show w1.heap.size < w3.heap.size; omega)).trans xP
  have yP' := (hb4.cell (p := ⟨w1.heap.size, 1, none⟩) (by show w1.heap.size < w3.heap.size; omega)).trans yP
  clear xP yP
  have xP := xP'
  have yP := yP'
  clear xP' yP'
  clear hb4 Htx Hts
  cases hp : provesF p (qs.map (·.2)) ms sp fi with
  | false =>
    have ht := hno hp
    subst ht
    rw [hp] at Hpr
    clear hyes hno
    go_wp2_with fail
    refine (Hpr.out _ _ _ _ _ HS4.out HM4.out HP4.out (Nat.le_refl _)).mono ?_
    rintro e w5 ⟨rfl, hb5⟩
    have hB5 : Below w.heap.size w w5 := hB4.trans (hb5.mono hB4.size)
    clear hb5
    go_wp2_with fail
    refine (alive _).mono ?_
    rintro e w' ⟨rfl, rfl⟩
    go_wp2
    go_ret
    exact ⟨rfl, hB5⟩
  | true =>
    obtain ⟨e1, e2, e3, e4⟩ := hyes hp
    subst e1 e2
    have ht0 : (tb2 == ([] : List UInt8)) = false := by rw [beq_eq_false_iff_ne]; exact e4
    have ht1 : tb2.isEmpty = false := by cases tb2 with | nil => exact absurd rfl e4 | cons _ _ => rfl
    clear hyes hno hp
    go_wp2_with fail
    refine (Hrp.out _ _ _ _ HS4.out HM4.out (Nat.le_refl _)).mono ?_
    rintro e w5 ⟨v5, rfl, ho5, hb5⟩
    have hs45 := hb5.size
    have HS5 := Lib.hid ((HS4.out.below (w' := w5) hb5.block).mono hb5.size)
    have HM5 := Lib.hid ((HM4.out.below (w' := w5) hb5.block).mono hb5.size)
    have HP5 := Lib.hid ((HP4.out.below (w' := w5) hb5.block).mono hb5.size)
    have hB5 : Below w.heap.size w w5 := hB4.trans (hb5.mono hB4.size)
    have xP' := (hb5.cell (p := ⟨w1.heap.size, 0, none⟩) (by show w1.heap.size < w4.heap.size; omega)).trans xP
    have yP' := (hb5.cell (p := ⟨w1.heap.size, 1, none⟩) (by show w1.heap.size < w4.heap.size; omega)).trans yP
    clear xP yP
    have xP := xP'
    have yP := yP'
    clear xP' yP'
    have hr5 := RdSplits.of_own ho5 Hs642.out
    obtain ⟨o5, c5, hv5⟩ := own_len ho5
    subst hv5
    rw [e3]
    rw [e3] at hr5
    clear ho5
    obtain ⟨w6, hw6, xX, yX, hb6, hs6⟩ := new_two w5 (.int .i64 fi2) (.slice o5 L c5) 27
    have hs56 := hb6.size
    have HS6 := Lib.hid ((HS5.out.below (w' := w6) hb6.block).mono hb6.size)
    have HM6 := Lib.hid ((HM5.out.below (w' := w6) hb6.block).mono hb6.size)
    have HP6 := Lib.hid ((HP5.out.below (w' := w6) hb6.block).mono hb6.size)
    have hB6 : Below w.heap.size w w6 := hB5.trans (hb6.mono hB5.size)
    have xP' := (hb6.cell (p := ⟨w1.heap.size, 0, none⟩) (by show w1.heap.size < w5.heap.size; omega)).trans xP
    have yP' := (hb6.cell (p := ⟨w1.heap.size, 1, none⟩) (by show w1.heap.size < w5.heap.size; omega)).trans yP
    clear xP yP
    have xP := xP'
    have yP := yP'
    clear xP' yP'
    have HX6 := Lib.hid ((hr5.below (w' := w6) hb6.block).mono hb6.size)
    have hszX : w5.heap.size < w6.heap.size := hs6
    clear hb5 hb6 hr5 hs6
    go_upto_region 10 with fail
    rw [← hw6]
    clear hw6
    go_wp2_with fail
    refine (Htx2.out _ _ _ _ _ HS6.out HM6.out HX6.out (Nat.le_refl _)).mono ?_
    rintro e w7 ⟨rfl, hb7⟩
    have hs67 := hb7.size
    have hB7 : Below w.heap.size w w7 := hB6.trans (hb7.mono hB6.size)
    have xP' := (hb7.cell (p := ⟨w1.heap.size, 0, none⟩) (by show w1.heap.size < w6.heap.size; omega)).trans xP
    have yP' := (hb7.cell (p := ⟨w1.heap.size, 1, none⟩) (by show w1.heap.size < w6.heap.size; omega)).trans yP
    clear xP yP
    have xP := xP'
    have yP := yP'
    clear xP' yP'
    have xX' := (hb7.cell (p := ⟨w5.heap.size, 0, none⟩) (by show w5.heap.size < w6.heap.size; omega)).trans xX
    have yX' := (hb7.cell (p := ⟨w5.heap.size, 1, none⟩) (by show w5.heap.size < w6.heap.size; omega)).trans yX
    clear xX yX
    have xX := xX'
    have yX := yX'
    clear xX' yX'
    clear hb7
    go_wp2
    go_ret
    exact ⟨rfl, hB7⟩

set_option maxRecDepth 100000 in
theorem lifted (os : Os) (started : os.Started) (H : Type) (enc : TypeId × Value → H) :
    ReturnsInHanded {} Tryd.checked os 3 .any (fun w args => (Rows.fnProofTextSpec.pre enc Tryd.prog Tryd.f3 Rows.fnProofTextRow.domain false w args ∧ laidMet Tryd.prog tabs w) ∧ sizedMet enc Tryd.prog Tryd.f3 (OpenSpec.ofChange Rows.fnProofTextSpec) false w args) (Rows.fnProofTextSpec.post enc Tryd.prog Tryd.f3 false true false false) := by
  refine returnsInHanded_of_change_and (C := Tryd.checked) (X := fun w _ => laidMet Tryd.prog tabs w) (fun _ _ _ hh h => h.of_heap hh) Tryd.own started (by kernel_rfl) Tryd.func3
    (ChangeSpec.witness_at (enc := enc) (C := Tryd.checked) (os := os) (X := fun w _ => laidMet Tryd.prog tabs w) false (laidWorld os) #[.slice none 0 0] 8 rfl (by kernel_rfl) (by kernel_rfl) (by kernel_rfl) (by kernel_rfl) (by kernel_rfl) (laidWorld_met os _)) ?_
  intro W base args ds gs before hval0 hW hcnd _ hL _
  have hval : ∀ (j : Nat) t v, Tryd.f3.params[j]? = some t → args[j]? = some v → Value.okWide Tryd.prog W .any base t v := hval0
  have hW' := hW
  obtain ⟨p, q, hA0, hV, rfl, hfz, hnd⟩ := hW
  have hA : DataW.TrodAll enc Tryd.prog W 0 (fun _ => true) true Tryd.f3.params.toList args.toList ds p := hA0
  rw [Tryd.params3] at hA hval
  obtain ⟨v0, vs0, d0, ds0, p0, q0, hargs, rfl, rfl, h0, r0⟩ := trodAll_cons hA
  obtain ⟨rfl, rfl, rfl⟩ := trodAll_nil r0
  obtain rfl : args = #[v0] := by cases args; simp_all
  obtain ⟨rfl, rfl⟩ := trodVars_none hV
  obtain ⟨a0, len0, cap0, rfl⟩ := okWide_slice Tryd.underlying22 (hval 0 22 v0 rfl rfl)
  have k0 := h0
  have lt0 : ∀ x ∈ p0, x.block < W.heap.size := by obtain ⟨m, hm⟩ := k0; exact DataW.trod_lt m _ _ _ hm
  obtain ⟨z0, w0⟩ : ∃ zs, IsRow .u8 W a0 len0 cap0 zs := by
    obtain ⟨fuel, hf⟩ := h0
    rcases open_ints Tryd.underlying22 Tryd.underlying5 (by kernel_rfl) hf with ⟨hcs, _⟩ | ⟨x, l, c, zs, hcs, _, hl, hm, hz, _, hcell, hwz⟩
    · simp [Value.cells] at hcs
      obtain ⟨rfl, rfl, rfl⟩ := hcs
      exact ⟨[], .inl ⟨rfl, rfl, rfl, rfl⟩⟩
    · simp [Value.cells] at hcs
      obtain ⟨rfl, rfl, rfl⟩ := hcs
      exact ⟨zs, .inr ⟨_, rfl, hl, hm, by simpa using hz, hcell, hwz⟩⟩
  clear hA0 hval0
  refine (walk _ _ W (RdBytes.of_row w0)).mono fun e W' ⟨he, bel⟩ => ?_
  subst he
  exact ⟨_, rfl, _, _, _, [], _, [], hW', trodAll_mk1 (shut_bool Tryd.underlying4 _), (trodAll_cons_mk (Below.trod Tryd.laidOut (by kernel_rfl) (of_decide_eq_true (by kernel_rfl)) k0 bel lt0) trodAll_mk0), rfl, bel.frame _, fun h => by cases h⟩

theorem closed : joinedFacts Tryd.pinned.checked.prog 3 Tryd.f3 Rows.fnProofTextSpec Rows.fnProofTextRow = true := by
  unfold joinedFacts
  exact (and_tt (and_tt (and_tt (and_tt (and_tt (and_tt (and_tt (and_tt (and_tt (and_tt (and_tt (and_tt (and_tt (and_tt (and_tt (and_tt (and_tt (and_tt (and_tt (and_tt (and_tt (and_tt (and_tt (and_tt (and_tt (and_tt (and_tt (and_tt (and_tt (and_tt (and_tt (by kernel_rfl) (by kernel_rfl)) (by kernel_rfl)) (by kernel_rfl)) (by kernel_rfl)) (by kernel_rfl)) (by kernel_rfl)) (by kernel_rfl)) (by kernel_rfl)) (by kernel_rfl)) (by kernel_rfl)) (by kernel_rfl)) (by kernel_rfl)) (by kernel_rfl)) (by kernel_rfl)) (by kernel_rfl)) (by kernel_rfl)) (by kernel_rfl)) (by kernel_rfl)) (by kernel_rfl)) (by kernel_rfl)) (by kernel_rfl)) (by kernel_rfl)) (by kernel_rfl)) (by kernel_rfl)) Tryd.mayEnter0) (lifted_tt Tryd.lifts0 rfl)) (make_tt Tryd.make0 rfl)) (by kernel_rfl)) (by kernel_rfl)) (by kernel_rfl)) (by kernel_rfl))
theorem over : Rows.fnProofTextRow.holds Tryd.pinned (OpenSpec.ofChange Rows.fnProofTextSpec) :=
  OpenClaim.holds_of_wide 3 Tryd.f3 rfl rfl rfl rfl rfl rfl rfl ⟨rfl, rfl, rfl, rfl, rfl⟩ rfl rfl rfl rfl rfl (by kernel_rfl) Tryd.func3 closed
    (of_decide_eq_true (by kernel_rfl)) (by unfold Func.isWrapper; first | (rw [if_pos (by decide +kernel)]; kernel_rfl) | (rw [if_neg (by decide +kernel)]; exact ⟨rfl, rfl⟩))
    (fun os started H enc _ => lifted os started H enc)

theorem proved : Rows.FnProofTextCardSaid :=
  Claim7.holds_tied_plain_at .later [] [.data, .data, .data] true Rows.fnProofTextCard.stood.harness false
    over (fun _ h => by cases h) (by kernel_rfl) (fun _ h => by cases h) fnProofText_row_tie rfl ⟨rfl, rfl⟩ (by kernel_rfl) rfl
    (fun f fn hf hfn => by
      obtain rfl : f = 3 := Option.some.inj ((show Tryd.prog.funcNamed "loop.example/tellersandliars/laws.FnProofText" = some 3 by kernel_rfl).symm.trans hf) |>.symm
      obtain rfl : fn = Tryd.f3 := (Option.some.inj (Tryd.func3.symm.trans hfn)).symm
      exact ⟨by kernel_rfl, fun j t ht => by
        rw [Tryd.params3] at ht
        have h3 : t = 22 := by
          rcases j with _ | j
          · simpa using ht.symm
          · simp at ht
        subst h3
        exact (show Tryd.prog.wantsStandIn 22 = false by kernel_rfl)⟩)
    (by kernel_rfl)
end Go.Proofs.YtilgkheefhobgaaDoor.fnProofText
