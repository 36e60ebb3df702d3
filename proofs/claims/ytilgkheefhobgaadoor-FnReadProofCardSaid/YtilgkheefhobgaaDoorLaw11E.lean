/- A law of stage 11: read proofs are canonical. It answers true, whatever the code. No condition. -/
import Derived.Test.YtilgkheefhobgaaDoorMerged0
import Derived.Test.YtilgkheefhobgaaDoorDrawPu
import Derived.Test.YtilgkheefhobgaaDoorMerged34
import Derived.Test.YtilgkheefhobgaaDoorMerged27
import Derived.Test.YtilgkheefhobgaaDoorMerged10
import Derived.Deep.RegionHeld3
import Derived.Deep.Cut
namespace Go.Proofs.YtilgkheefhobgaaDoor
open Go.RowKit Go.Joins
theorem read_small {p : Int} {s : List Cl} {ms : List (Int × Int)} {bs : List Nat} : S64 (foundS (readF p s ms bs)) ∧ (foundS (readF p s ms bs)).length ≤ 15 := by
  cases h : readF p s ms bs with
  | none => exact ⟨fun s hs => (by cases hs), Nat.zero_le _⟩
  | some t =>
    obtain ⟨_, h2, _⟩ := readF_iff.1 h
    obtain ⟨_, hf, hsz⟩ := text_read _ _ _ _ _ h2
    have := hsz (by omega)
    exact ⟨flat_S64 t 0 hf (by omega), by show (t.flat 0).length ≤ 15; rw [PT.flat_len]; omega⟩
theorem read_yes {p : Int} {s : List Cl} {ms : List (Int × Int)} {bs : List UInt8} (h : (readF p s ms (nats8 bs)).isSome = true) :
    provesF p s ms (foundS (readF p s ms (nats8 bs))) (foundG (readF p s ms (nats8 bs))) = true ∧ tbF p s ms (foundS (readF p s ms (nats8 bs))) (foundG (readF p s ms (nats8 bs))) = bs ∧ readF p s ms (nats8 (bs ++ [42])) = none := by
  obtain ⟨t, ht⟩ := Option.isSome_iff_exists.1 h
  rw [ht]
  obtain ⟨h1, h2⟩ := readF_text ht
  refine ⟨h2, ?_, ?_⟩
  · show (textF p s ms (t.flat 0) (t.tgt 0)).map UInt8.ofNat = bs
    rw [h1, nats8_back]
  · have e : nats8 (bs ++ [42]) = nats8 bs ++ [42] := by unfold nats8; simp
    rw [e]; exact readF_star ht 42
theorem read_nothing (p : Int) (s : List Cl) (ms : List (Int × Int)) (bs : List Nat) : (readF p s ms bs).isSome = false → foundG (readF p s ms bs) = 0 ∧ (foundS (readF p s ms bs)).length = 0 := by
  intro h
  cases hf : readF p s ms bs with
  | none => exact ⟨rfl, rfl⟩
  | some t => rw [hf] at h; cases h
end Go.Proofs.YtilgkheefhobgaaDoor
namespace Go.Proofs.YtilgkheefhobgaaDoor.fnReadProof
open Go.ChangeShapes Go.WideShapes Go.ChangeAt Go.RowKit Go.Joins
attribute [local irreducible] holds tabN tabV holdsV sameV followsV alwaysV matterV mirV mirOk mcells tmOf claimOk mayT mayV ctabV ctabN storyV storyOk storyN storyT ctermV ctermL denyV denyOk ccells clashV followsF provesF findF foundS foundG tbF readF textF nats8 scells
open Go.ChangeMaps (open_string shut_string)
set_option linter.unusedVariables false
set_option maxRecDepth 100000 in
set_option maxHeartbeats 8000000 in
theorem walk (a0 : Value) (n0 : Nat) (w : World) (w0 : RdBytes w w.heap.size a0 n0) :
    Calls Tryd.prog 4 #[a0] w fun e w' => e = .returned (.bool true) ∧ Below w.heap.size w w' := by
  have hr := w0
  by_cases hbig : n0 ≤ 1048576
  case neg =>
    obtain ⟨ao, cap, rfl, hl, hm, hc⟩ := w0
    have hbig' := code_big hbig
    unfold maxLen at hm
    clear hc hr hbig
    go_enter Tryd.func4, Tryd.ntmps4
    go_wp2
    go_ret
    exact ⟨rfl, Below.refl _ _⟩
  have hbig' : (n0 : Int) ≤ 1048576 := by omega
  clear hbig
  obtain ⟨ao, cap, rfl, hl, hm, hc⟩ := w0
  have Hr := Lib.hid hr
  clear hc hr hl hm
  go_enter Tryd.func4, Tryd.ntmps4
  go_wp2_with fail
  refine (drawReadProof _ _ _ Hr.out).mono ?_
  rintro e w1 ⟨p, v, qs, g, cap, ms, s, hp1, hp4, rfl, hst, hqs, hq7, hown, hi, hn, hs1000, hB1⟩
  have HS1 := Lib.hid hst.rd
  have HM1 := Lib.hid (RdMarks.of_own hown hi)
  obtain ⟨qo, qcap, rfl⟩ := own_len hst.1
  clear hst hown hi
  have hrp := fun B u u2 W h h2 h3 => implReadProof p qs ms s (by omega) B u u2 W h h2 h3
  have hrs := fun B u u2 W h h2 h3 => specReadProof p qs ms s (by omega) B u u2 W h h2 h3
  have hrt := fun B u u2 W h h2 h3 => implReadProof p qs ms (s ++ [42]) (by rw [List.length_append]; simp; omega) B u u2 W h h2 h3
  rw [show sv (s ++ [42]) = .string (⟨s.toArray⟩ ++ ⟨#[42]⟩) from congrArg Value.string (bs_append s [42]).symm] at hrt
  obtain ⟨hs64, hl15⟩ := read_small (p := p) (s := qs.map (·.2)) (ms := ms) (bs := nats8 s)
  have htx := fun B u u2 pv W h h2 h3 h4 => implProofText p (foundG (readF p (qs.map (·.2)) ms (nats8 s))) qs ms (foundS (readF p (qs.map (·.2)) ms (nats8 s))) B u u2 pv W h h2 h3 h4 (read_i64 _ _ _ _)
  have hpr := fun B u u2 pv W h h2 h3 h4 => implProofOk p (foundG (readF p (qs.map (·.2)) ms (nats8 s))) qs ms (foundS (readF p (qs.map (·.2)) ms (nats8 s))) B u u2 pv W h h2 h3 h4 (read_i64 _ _ _ _)
  have hyes := fun h => read_yes (p := p) (s := qs.map (·.2)) (ms := ms) (bs := s) h
  have hno := read_nothing p (qs.map (·.2)) ms (nats8 s)
  have hfsn : foundS none = [] := by unfold foundS; rfl
  have hfgn : foundG none = 0 := by unfold foundG; rfl
  have Hs64 := Lib.hid hs64
  have Hfi := Lib.hid hrp
  have Hfs := Lib.hid hrs
  have Htx := Lib.hid htx
  have Hpr := Lib.hid hpr
  clear hrp hrs htx hpr hs64
  generalize provesF p (qs.map (·.2)) ms (foundS (readF p (qs.map (·.2)) ms (nats8 s))) (foundG (readF p (qs.map (·.2)) ms (nats8 s))) = pr at *
  generalize tbF p (qs.map (·.2)) ms (foundS (readF p (qs.map (·.2)) ms (nats8 s))) (foundG (readF p (qs.map (·.2)) ms (nats8 s))) = tb at *
  generalize foundS (readF p (qs.map (·.2)) ms (nats8 s)) = sp at *
  generalize foundG (readF p (qs.map (·.2)) ms (nats8 s)) = fi at *
  generalize (readF p (qs.map (·.2)) ms (nats8 s)).isSome = ok at *
  generalize readF p (qs.map (·.2)) ms (nats8 (s ++ [42])) = o2 at *
  have Hl15 := Lib.hid hl15; clear hl15
  have Hyes := Lib.hid hyes; clear hyes
  have Hrt := Lib.hid hrt; clear hrt
  have hsl : ¬ 9223372036854775807 < s.length + 1 := by omega
  go_wp2_with fail
  refine (Hfi.out _ _ _ _ HS1.out HM1.out (Nat.le_refl _)).mono ?_
  rintro e w2 ⟨vP, rfl, hoP, hb2⟩
  have HS2 := Lib.hid ((HS1.out.below (w' := w2) hb2.block).mono hb2.size)
  have HM2 := Lib.hid ((HM1.out.below (w' := w2) hb2.block).mono hb2.size)
  have hB2 : Below w.heap.size w w2 := hB1.trans (hb2.mono hB1.size)
  have hrP := RdSplits.of_own hoP Hs64.out
  obtain ⟨oP, cP, hvP⟩ := own_len hoP
  subst hvP
  obtain ⟨w3, hw3, xP, yP, hb3, hs3⟩ := new_two w2 (.int .i64 fi) (.slice oP sp.length cP) 27
  have HP3 := Lib.hid ((hrP.below (w' := w3) hb3.block).mono hb3.size)
  have HS3 := Lib.hid ((HS2.out.below (w' := w3) hb3.block).mono hb3.size)
  have HM3 := Lib.hid ((HM2.out.below (w' := w3) hb3.block).mono hb3.size)
  have hB3 : Below w.heap.size w w3 := hB2.trans (hb3.mono hB2.size)
  have hszP : w2.heap.size < w3.heap.size := hs3
  go_upto_region 5 with fail
  rw [← hw3]
  clear hw3 hb2 hb3 hoP hrP hs3
  clear HS1 HM1 HS2 HM2
  go_wp2_with fail
  refine (Hfs.out _ _ _ _ HS3.out HM3.out (Nat.le_refl _)).mono ?_
  rintro e w4 ⟨vX, rfl, hoX, hb4⟩
  have HS4 := Lib.hid ((HS3.out.below (w' := w4) hb4.block).mono hb4.size)
  have HM4 := Lib.hid ((HM3.out.below (w' := w4) hb4.block).mono hb4.size)
  have hB4 : Below w.heap.size w w4 := hB3.trans (hb4.mono hB3.size)
  have hrX := RdSplits.of_own hoX Hs64.out
  obtain ⟨oX, cX, hvX⟩ := own_len hoX
  subst hvX
  have HP4 := Lib.hid ((HP3.out.below (w' := w4) hb4.block).mono hb4.size)
  have hs34 := hb4.size
  have xP' := (hb4.cell (p := ⟨w2.heap.size, 0, none⟩) (by show w2.heap.size < w3.heap.size; omega)).trans xP
  have yP' := (hb4.cell (p := ⟨w2.heap.size, 1, none⟩) (by show w2.heap.size < w3.heap.size; omega)).trans yP
  clear xP yP
  have xP := xP'
  have yP := yP'
  clear xP' yP'
  obtain ⟨w5, hw5, xX, yX, hb5, hs5⟩ := new_two w4 (.int .i64 fi) (.slice oX sp.length cX) 27
  have HX5 := Lib.hid ((hrX.below (w' := w5) hb5.block).mono hb5.size)
  have HS5 := Lib.hid ((HS4.out.below (w' := w5) hb5.block).mono hb5.size)
  have HM5 := Lib.hid ((HM4.out.below (w' := w5) hb5.block).mono hb5.size)
  have hB5 : Below w.heap.size w w5 := hB4.trans (hb5.mono hB4.size)
  have HP5 := Lib.hid ((HP4.out.below (w' := w5) hb5.block).mono hb5.size)
  have hs45 := hb5.size
  have xP' := (hb5.cell (p := ⟨w2.heap.size, 0, none⟩) (by show w2.heap.size < w4.heap.size; omega)).trans xP
  have yP' := (hb5.cell (p := ⟨w2.heap.size, 1, none⟩) (by show w2.heap.size < w4.heap.size; omega)).trans yP
  clear xP yP
  have xP := xP'
  have yP := yP'
  clear xP' yP'
  have hszX : w4.heap.size < w5.heap.size := hs5
  go_upto_region 6 with fail
  rw [← hw5]
  clear hw5 hb4 hb5 hoX hrX hs5
  clear HS3 HM3 HS4 HM4 HP3 HP4
  have Hsame := Lib.hid (sameProof sp fi w5.heap.size w5.heap.size _ _ w5 HP5.out HX5.out (Nat.le_refl _) (Nat.le_refl _))
  generalize sp.length = L at *
  go_wp2_with fail
  refine Hsame.out.mono ?_
  rintro e w6 ⟨rfl, hb6⟩
  have HS6 := Lib.hid ((HS5.out.below (w' := w6) hb6.block).mono hb6.size)
  have HM6 := Lib.hid ((HM5.out.below (w' := w6) hb6.block).mono hb6.size)
  have HP6 := Lib.hid ((HP5.out.below (w' := w6) hb6.block).mono hb6.size)
  have hB6 : Below w.heap.size w w6 := hB5.trans (hb6.mono hB5.size)
  have xP' := (hb6.cell (p := ⟨w2.heap.size, 0, none⟩) (by show w2.heap.size < w5.heap.size; omega)).trans xP
  have yP' := (hb6.cell (p := ⟨w2.heap.size, 1, none⟩) (by show w2.heap.size < w5.heap.size; omega)).trans yP
  clear xP yP
  have xP := xP'
  have yP := yP'
  clear xP' yP'
  have hs56 := hb6.size
  clear hb6 Hsame HX5 xX yX
  cases ok with
  | false =>
    obtain ⟨h1, h2⟩ := hno rfl
    subst h1
    have hL0 : (L : Int) = 0 := by omega
    go_wp2_with fail
    refine (alive _).mono ?_
    rintro e w' ⟨rfl, rfl⟩
    go_wp2
    go_ret
    exact ⟨rfl, hB6⟩
  | true =>
    obtain ⟨e1, e2, e3⟩ := Hyes.out rfl
    rw [e1] at Hpr
    rw [e2] at Htx
    rw [e3, hfsn, hfgn, isSome_noneT] at Hrt
    clear e1 e2 e3 hfsn hfgn Hyes hno
    go_wp2_with fail
    refine (Hrt.out _ _ _ _ HS6.out HM6.out (Nat.le_refl _)).mono ?_
    rintro e w7 ⟨v7, rfl, ho7, hb7⟩
    have hs67 := hb7.size
    have HS7 := Lib.hid ((HS6.out.below (w' := w7) hb7.block).mono hb7.size)
    have HM7 := Lib.hid ((HM6.out.below (w' := w7) hb7.block).mono hb7.size)
    have HP7 := Lib.hid ((HP6.out.below (w' := w7) hb7.block).mono hb7.size)
    have hB7 : Below w.heap.size w w7 := hB6.trans (hb7.mono hB6.size)
    have xP' := (hb7.cell (p := ⟨w2.heap.size, 0, none⟩) (by show w2.heap.size < w6.heap.size; omega)).trans xP
    have yP' := (hb7.cell (p := ⟨w2.heap.size, 1, none⟩) (by show w2.heap.size < w6.heap.size; omega)).trans yP
    clear xP yP
    have xP := xP'
    have yP := yP'
    clear xP' yP'
    obtain ⟨o7, c7, hv7⟩ := own_len ho7
    subst hv7
    have hn0 : ([] : List Sp3).length = 0 := rfl
    rw [hn0]
    obtain ⟨w8, hw8, _, _, hb8, hs8⟩ := new_two w7 (.int .i64 0) (.slice o7 0 c7) 27
    have hs78 := hb8.size
    have HS8 := Lib.hid ((HS7.out.below (w' := w8) hb8.block).mono hb8.size)
    have HM8 := Lib.hid ((HM7.out.below (w' := w8) hb8.block).mono hb8.size)
    have HP8 := Lib.hid ((HP7.out.below (w' := w8) hb8.block).mono hb8.size)
    have hB8 : Below w.heap.size w w8 := hB7.trans (hb8.mono hB7.size)
    have xP' := (hb8.cell (p := ⟨w2.heap.size, 0, none⟩) (by show w2.heap.size < w7.heap.size; omega)).trans xP
    have yP' := (hb8.cell (p := ⟨w2.heap.size, 1, none⟩) (by show w2.heap.size < w7.heap.size; omega)).trans yP
    clear xP yP
    have xP := xP'
    have yP := yP'
    clear xP' yP'
    clear hb7 hb8 ho7 hs8
    go_upto_region 11 with fail
    rw [← hw8]
    clear hw8
    go_wp2_with fail
    refine (Htx.out _ _ _ _ _ HS8.out HM8.out HP8.out (Nat.le_refl _)).mono ?_
    rintro e w9 ⟨rfl, hb9⟩
    have hs89 := hb9.size
    have HS9 := Lib.hid ((HS8.out.below (w' := w9) hb9.block).mono hb9.size)
    have HM9 := Lib.hid ((HM8.out.below (w' := w9) hb9.block).mono hb9.size)
    have HP9 := Lib.hid ((HP8.out.below (w' := w9) hb9.block).mono hb9.size)
    have hB9 : Below w.heap.size w w9 := hB8.trans (hb9.mono hB8.size)
    have xP' := (hb9.cell (p := ⟨w2.heap.size, 0, none⟩) (by show w2.heap.size < w8.heap.size; omega)).trans xP
    have yP' := (hb9.cell (p := ⟨w2.heap.size, 1, none⟩) (by show w2.heap.size < w8.heap.size; omega)).trans yP
    clear xP yP
    have xP := xP'
    have yP := yP'
    clear xP' yP'
    clear hb9
    go_wp2_with fail
    refine (Hpr.out _ _ _ _ _ HS9.out HM9.out HP9.out (Nat.le_refl _)).mono ?_
    rintro e w10 ⟨rfl, hb10⟩
    have hB10 : Below w.heap.size w w10 := hB9.trans (hb10.mono hB9.size)
    clear hb10
    go_wp2
    go_ret
    exact ⟨rfl, hB10⟩

set_option maxRecDepth 100000 in
theorem lifted (os : Os) (started : os.Started) (H : Type) (enc : TypeId × Value → H) :
    ReturnsInHanded {} Tryd.checked os 4 .any (fun w args => (Rows.fnReadProofSpec.pre enc Tryd.prog Tryd.f4 Rows.fnReadProofRow.domain false w args ∧ laidMet Tryd.prog tabs w) ∧ sizedMet enc Tryd.prog Tryd.f4 (OpenSpec.ofChange Rows.fnReadProofSpec) false w args) (Rows.fnReadProofSpec.post enc Tryd.prog Tryd.f4 false true false false) := by
  refine returnsInHanded_of_change_and (C := Tryd.checked) (X := fun w _ => laidMet Tryd.prog tabs w) (fun _ _ _ hh h => h.of_heap hh) Tryd.own started (by kernel_rfl) Tryd.func4
    (ChangeSpec.witness_at (enc := enc) (C := Tryd.checked) (os := os) (X := fun w _ => laidMet Tryd.prog tabs w) false (laidWorld os) #[.slice none 0 0] 8 rfl (by kernel_rfl) (by kernel_rfl) (by kernel_rfl) (by kernel_rfl) (by kernel_rfl) (laidWorld_met os _)) ?_
  intro W base args ds gs before hval0 hW hcnd _ hL _
  have hval : ∀ (j : Nat) t v, Tryd.f4.params[j]? = some t → args[j]? = some v → Value.okWide Tryd.prog W .any base t v := hval0
  have hW' := hW
  obtain ⟨p, q, hA0, hV, rfl, hfz, hnd⟩ := hW
  have hA : DataW.TrodAll enc Tryd.prog W 0 (fun _ => true) true Tryd.f4.params.toList args.toList ds p := hA0
  rw [Tryd.params4] at hA hval
  obtain ⟨v0, vs0, d0, ds0, p0, q0, hargs, rfl, rfl, h0, r0⟩ := trodAll_cons hA
  obtain ⟨rfl, rfl, rfl⟩ := trodAll_nil r0
  obtain rfl : args = #[v0] := by cases args; simp_all
  obtain ⟨rfl, rfl⟩ := trodVars_none hV
  obtain ⟨a0, len0, cap0, rfl⟩ := okWide_slice Tryd.underlying22 (hval 0 22 v0 rfl rfl)
  have k0 := h0
  have lt0 : ∀ x ∈ p0, x.block < W.heap.size := by obtain ⟨m, hm⟩ := k0; exact DataW.trod_lt m _ _ _ hm
  obtain ⟨z0, w0⟩ : ∃ zs, IsRow .u8 W a0 len0 cap0 zs := by
    obtain ⟨fuel, hf⟩ := h0
    rcases open_ints Tryd.underlying22 Tryd.underlying5 (by kernel_rfl) hf with ⟨hcs, _⟩ | ⟨x, l, c, zs, hcs, _, hl, hm, hz, _, hcell, hwz⟩
    · simp [Value.cells] at hcs
      obtain ⟨rfl, rfl, rfl⟩ := hcs
      exact ⟨[], .inl ⟨rfl, rfl, rfl, rfl⟩⟩
    · simp [Value.cells] at hcs
      obtain ⟨rfl, rfl, rfl⟩ := hcs
      exact ⟨zs, .inr ⟨_, rfl, hl, hm, by simpa using hz, hcell, hwz⟩⟩
  clear hA0 hval0
  refine (walk _ _ W (RdBytes.of_row w0)).mono fun e W' ⟨he, bel⟩ => ?_
  subst he
  exact ⟨_, rfl, _, _, _, [], _, [], hW', trodAll_mk1 (shut_bool Tryd.underlying4 _), (trodAll_cons_mk (Below.trod Tryd.laidOut (by kernel_rfl) (of_decide_eq_true (by kernel_rfl)) k0 bel lt0) trodAll_mk0), rfl, bel.frame _, fun h => by cases h⟩

theorem closed : joinedFacts Tryd.pinned.checked.prog 4 Tryd.f4 Rows.fnReadProofSpec Rows.fnReadProofRow = true := by
  unfold joinedFacts
  exact (and_tt (and_tt (and_tt (and_tt (and_tt (and_tt (and_tt (and_tt (and_tt (and_tt (and_tt (and_tt (and_tt (and_tt (and_tt (and_tt (and_tt (and_tt (and_tt (and_tt (and_tt (and_tt (and_tt (and_tt (and_tt (and_tt (and_tt (and_tt (and_tt (and_tt (and_tt (by kernel_rfl) (by kernel_rfl)) (by kernel_rfl)) (by kernel_rfl)) (by kernel_rfl)) (by kernel_rfl)) (by kernel_rfl)) (by kernel_rfl)) (by kernel_rfl)) (by kernel_rfl)) (by kernel_rfl)) (by kernel_rfl)) (by kernel_rfl)) (by kernel_rfl)) (by kernel_rfl)) (by kernel_rfl)) (by kernel_rfl)) (by kernel_rfl)) (by kernel_rfl)) (by kernel_rfl)) (by kernel_rfl)) (by kernel_rfl)) (by kernel_rfl)) (by kernel_rfl)) (by kernel_rfl)) Tryd.mayEnter0) (lifted_tt Tryd.lifts0 rfl)) (make_tt Tryd.make0 rfl)) (by kernel_rfl)) (by kernel_rfl)) (by kernel_rfl)) (by kernel_rfl))
theorem over : Rows.fnReadProofRow.holds Tryd.pinned (OpenSpec.ofChange Rows.fnReadProofSpec) :=
  OpenClaim.holds_of_wide 4 Tryd.f4 rfl rfl rfl rfl rfl rfl rfl ⟨rfl, rfl, rfl, rfl, rfl⟩ rfl rfl rfl rfl rfl (by kernel_rfl) Tryd.func4 closed
    (of_decide_eq_true (by kernel_rfl)) (by unfold Func.isWrapper; first | (rw [if_pos (by decide +kernel)]; kernel_rfl) | (rw [if_neg (by decide +kernel)]; exact ⟨rfl, rfl⟩))
    (fun os started H enc _ => lifted os started H enc)

theorem proved : Rows.FnReadProofCardSaid :=
  Claim7.holds_tied_plain_at .later [] [.data, .data, .data] true Rows.fnReadProofCard.stood.harness false
    over (fun _ h => by cases h) (by kernel_rfl) (fun _ h => by cases h) fnReadProof_row_tie rfl ⟨rfl, rfl⟩ (by kernel_rfl) rfl
    (fun f fn hf hfn => by
      obtain rfl : f = 4 := Option.some.inj ((show Tryd.prog.funcNamed "loop.example/tellersandliars/laws.FnReadProof" = some 4 by kernel_rfl).symm.trans hf) |>.symm
      obtain rfl : fn = Tryd.f4 := (Option.some.inj (Tryd.func4.symm.trans hfn)).symm
      exact ⟨by kernel_rfl, fun j t ht => by
        rw [Tryd.params4] at ht
        have h3 : t = 22 := by
          rcases j with _ | j
          · simpa using ht.symm
          · simp at ht
        subst h3
        exact (show Tryd.prog.wantsStandIn 22 = false by kernel_rfl)⟩)
    (by kernel_rfl)
end Go.Proofs.YtilgkheefhobgaaDoor.fnReadProof
