/- A law of chapter 2: texts of terms are read. It answers true, whatever the code. No condition. The three tables of Go's library are laid; no walk reads them. -/
import Derived.Test.YtmcdfbjmbelklaaDoorDrawN
import Derived.Test.YtmcdfbjmbelklaaDoorMarksC
import Derived.Test.YtmcdfbjmbelklaaDoorReadP
import Derived.Test.YtmcdfbjmbelklaaDoorLawsA
import Derived.Test.YtmcdfbjmbelklaaDoorDoor
namespace Go.Proofs.YtmcdfbjmbelklaaDoor
open Go.RowKit Go.Joins
theorem text_facts {p : Int} {ms : List (Int × Int)} (h : termOk p ms = true) : rdV p (textV p ms) = some ms ∧ ¬ textV p ms = [] ∧ (textV p ms).length ≤ 60 := by
  obtain ⟨_, _, t, ht, rfl⟩ := termOk_iff.1 h
  have hr := rdV_text h ht
  have hl := (rdV_len hr).1
  rw [textV_of h ht]
  refine ⟨hr, ?_, hl⟩
  intro e
  have h1 := txt_pos t
  rw [e] at h1
  simp at h1
end Go.Proofs.YtmcdfbjmbelklaaDoor

namespace Go.Proofs.YtmcdfbjmbelklaaDoor.fnTermText
open Go.ChangeShapes Go.WideShapes Go.ChangeAt Go.RowKit Go.Joins
attribute [local irreducible] txt textV rdV
open Go.ChangeMaps (open_string shut_string)
set_option linter.unusedVariables false
set_option maxRecDepth 100000 in
set_option maxHeartbeats 2000000 in
theorem walk (a0 : Value) (n0 : Nat) (w : World) (w0 : RdBytes w w.heap.size a0 n0) :
    Calls Tryd.prog 3 #[a0] w fun e w' => e = .returned (.bool true) ∧ Below w.heap.size w w' := by
  have hr := w0
  by_cases hbig : n0 ≤ 1048576
  case neg =>
    obtain ⟨ao, cap, rfl, hl, hm, hc⟩ := w0
    have hbig' := code_big hbig
    unfold maxLen at hm
    clear hc hr hbig
    go_enter Tryd.func3, Tryd.ntmps3
    go_wp2
    go_ret
    exact ⟨rfl, Below.refl _ _⟩
  have hbig' : (n0 : Int) ≤ 1048576 := by omega
  clear hbig
  obtain ⟨ao, cap, rfl, hl, hm, hc⟩ := w0
  have Hr := Lib.hid hr
  clear hc hr hl hm
  go_enter Tryd.func3, Tryd.ntmps3
  go_wp2_with fail
  refine (drawTermText _ _ _ Hr.out).mono ?_
  rintro e w1 ⟨p, g, n, cp, ms, hp1, hp8, rfl, hlen, hown, hi, hn, hB⟩
  have Hlen := Lib.hid hlen; clear hlen
  have Hi := Lib.hid hi; clear hi
  have hrd : RdMarks w1 w1.heap.size (.slice (some ⟨g, 0, none⟩) n cp) ms := by
    have h0 := RdMarks.of_own (ms := ms) (v := .slice (some ⟨g, 0, none⟩) n cp) (e := TM) (base := w.heap.size) (by rw [Hlen.out]; exact hown) Hi.out
    exact h0
  clear hown
  have Hrd1 := Lib.hid hrd; clear hrd
  have hB1 := hB; clear hB
  go_wp2_with fail
  refine (implTermText _ ms _ _ _ Hrd1.out (Nat.le_refl _)).mono ?_
  rintro e w2 ⟨rfl, hb2⟩
  have Hrd2 := Lib.hid (Hrd1.out.kept hb2)
  have hB2 : Below w.heap.size w w2 := hB1.trans (hb2.mono hB1.size)
  clear hb2 Hrd1
  cases hok : termOk p ms with
  | false =>
    have Hok := Lib.hid hok; clear hok
    rw [textV_no Hok.out]
    go_wp2_with fail
    refine (specTermText _ ms _ _ _ Hrd2.out (Nat.le_refl _)).mono ?_
    rintro e w3 ⟨rfl, hb3⟩
    rw [textV_no Hok.out]
    have Hrd3 := Lib.hid (Hrd2.out.kept hb3)
    have hB3 : Below w.heap.size w w3 := hB2.trans (hb3.mono hB2.size)
    clear hb3
    go_wp2_with fail
    refine (implTermOk _ ms _ _ _ Hrd3.out (Nat.le_refl _)).mono ?_
    rintro e w4 ⟨rfl, hb4⟩
    have hB4 : Below w.heap.size w w4 := hB3.trans (hb4.mono hB3.size)
    rw [Hok.out]
    clear hb4
    go_wp2_with fail
    refine (alive _).mono ?_
    rintro e w' ⟨rfl, rfl⟩
    go_wp2
    go_ret
    exact ⟨rfl, hB4⟩
  | true =>
    obtain ⟨hrv, hT0, hT60⟩ := text_facts hok
    have hsp := fun (B : Nat) (v : Value) (W : World) h h2 => specTermText p ms B v W h h2
    have Hrv := Lib.hid hrv; clear hrv hok
    generalize textV p ms = T at *
    have Hsp := Lib.hid hsp; clear hsp
    have hbeq : (T == []) = false := by simpa using hT0
    have Hread := Lib.hid (fun W => implReadIs p T (by omega) W)
    go_wp2_with fail
    refine (Hsp.out _ _ _ Hrd2.out (Nat.le_refl _)).mono ?_
    rintro e w3 ⟨rfl, hb3⟩
    have Hrd3 := Lib.hid (Hrd2.out.kept hb3)
    have hB3 : Below w.heap.size w w3 := hB2.trans (hb3.mono hB2.size)
    clear hb3
    go_wp2_with fail
    refine (Hread.out _).mono ?_
    rintro e w4 ⟨hb4, v4, rfl, hown4, hi4⟩
    rw [Hrv.out] at hown4 hi4 ⊢
    have Hrd4 := Lib.hid (Hrd3.out.kept hb4)
    have Hrv4 := Lib.hid (RdMarks.of_own hown4 hi4)
    have hB4 : Below w.heap.size w w4 := hB3.trans (hb4.mono hB3.size)
    clear hb4 hown4 hi4
    go_wp2_with fail
    refine (sameMarks ms ms _ _ _ _ _ Hrv4.out Hrd4.out).mono ?_
    rintro e w' ⟨rfl, n5, rfl⟩
    rw [show decide (ms = ms) = true from by simp]
    go_wp2
    go_ret
    exact ⟨rfl, ⟨hB4.os, hB4.tape, hB4.output, hB4.size, hB4.block⟩⟩

set_option maxRecDepth 100000 in
theorem lifted (os : Os) (started : os.Started) (H : Type) (enc : TypeId × Value → H) :
    ReturnsInHanded {} Tryd.checked os 3 .any (fun w args => (Rows.fnTermTextSpec.pre enc Tryd.prog Tryd.f3 Rows.fnTermTextRow.domain false w args ∧ laidMet Tryd.prog tabs w) ∧ sizedMet enc Tryd.prog Tryd.f3 (OpenSpec.ofChange Rows.fnTermTextSpec) false w args) (Rows.fnTermTextSpec.post enc Tryd.prog Tryd.f3 false true false false) := by
  refine returnsInHanded_of_change_and (C := Tryd.checked) (X := fun w _ => laidMet Tryd.prog tabs w) (fun _ _ _ hh h => h.of_heap hh) Tryd.own started (by kernel_rfl) Tryd.func3
    (ChangeSpec.witness_at (enc := enc) (C := Tryd.checked) (os := os) (X := fun w _ => laidMet Tryd.prog tabs w) false (laidWorld os) #[.slice none 0 0] 8 rfl (by kernel_rfl) (by kernel_rfl) (by kernel_rfl) (by kernel_rfl) (by kernel_rfl) (laidWorld_met os _)) ?_
  intro W base args ds gs before hval0 hW hcnd _ hL _
  have hval : ∀ (j : Nat) t v, Tryd.f3.params[j]? = some t → args[j]? = some v → Value.okWide Tryd.prog W .any base t v := hval0
  have hW' := hW
  obtain ⟨p, q, hA0, hV, rfl, hfz, hnd⟩ := hW
  have hA : DataW.TrodAll enc Tryd.prog W 0 (fun _ => true) true Tryd.f3.params.toList args.toList ds p := hA0
  rw [Tryd.params3] at hA hval
  obtain ⟨v0, vs0, d0, ds0, p0, q0, hargs, rfl, rfl, h0, r0⟩ := trodAll_cons hA
  obtain ⟨rfl, rfl, rfl⟩ := trodAll_nil r0
  obtain rfl : args = #[v0] := by cases args; simp_all
  obtain ⟨rfl, rfl⟩ := trodVars_none hV
  obtain ⟨a0, len0, cap0, rfl⟩ := okWide_slice Tryd.underlying22 (hval 0 22 v0 rfl rfl)
  have k0 := h0
  have lt0 : ∀ x ∈ p0, x.block < W.heap.size := by obtain ⟨m, hm⟩ := k0; exact DataW.trod_lt m _ _ _ hm
  obtain ⟨z0, w0⟩ : ∃ zs, IsRow .u8 W a0 len0 cap0 zs := by
    obtain ⟨fuel, hf⟩ := h0
    rcases open_ints Tryd.underlying22 Tryd.underlying5 (by kernel_rfl) hf with ⟨hcs, _⟩ | ⟨x, l, c, zs, hcs, _, hl, hm, hz, _, hcell, hwz⟩
    · simp [Value.cells] at hcs
      obtain ⟨rfl, rfl, rfl⟩ := hcs
      exact ⟨[], .inl ⟨rfl, rfl, rfl, rfl⟩⟩
    · simp [Value.cells] at hcs
      obtain ⟨rfl, rfl, rfl⟩ := hcs
      exact ⟨zs, .inr ⟨_, rfl, hl, hm, by simpa using hz, hcell, hwz⟩⟩
  clear hA0 hval0
  refine (walk _ _ W (RdBytes.of_row w0)).mono fun e W' ⟨he, bel⟩ => ?_
  subst he
  exact ⟨_, rfl, _, _, _, [], _, [], hW', trodAll_mk1 (shut_bool Tryd.underlying4 _), (trodAll_cons_mk (Below.trod Tryd.laidOut (by kernel_rfl) (of_decide_eq_true (by kernel_rfl)) k0 bel lt0) trodAll_mk0), rfl, bel.frame _, fun h => by cases h⟩

theorem closed : joinedFacts Tryd.pinned.checked.prog 3 Tryd.f3 Rows.fnTermTextSpec Rows.fnTermTextRow = true := by
  unfold joinedFacts
  exact (and_tt (and_tt (and_tt (and_tt (and_tt (and_tt (and_tt (and_tt (and_tt (and_tt (and_tt (and_tt (and_tt (and_tt (and_tt (and_tt (and_tt (and_tt (and_tt (and_tt (and_tt (and_tt (and_tt (and_tt (and_tt (and_tt (and_tt (and_tt (and_tt (and_tt (and_tt (by kernel_rfl) (by kernel_rfl)) (by kernel_rfl)) (by kernel_rfl)) (by kernel_rfl)) (by kernel_rfl)) (by kernel_rfl)) (by kernel_rfl)) (by kernel_rfl)) (by kernel_rfl)) (by kernel_rfl)) (by kernel_rfl)) (by kernel_rfl)) (by kernel_rfl)) (by kernel_rfl)) (by kernel_rfl)) (by kernel_rfl)) (by kernel_rfl)) (by kernel_rfl)) (by kernel_rfl)) (by kernel_rfl)) (by kernel_rfl)) (by kernel_rfl)) (by kernel_rfl)) (by kernel_rfl)) Tryd.mayEnter0) (lifted_tt Tryd.lifts0 rfl)) (make_tt Tryd.make0 rfl)) (by kernel_rfl)) (by kernel_rfl)) (by kernel_rfl)) (by kernel_rfl))
theorem over : Rows.fnTermTextRow.holds Tryd.pinned (OpenSpec.ofChange Rows.fnTermTextSpec) :=
  OpenClaim.holds_of_wide 3 Tryd.f3 rfl rfl rfl rfl rfl rfl rfl ⟨rfl, rfl, rfl, rfl, rfl⟩ rfl rfl rfl rfl rfl (by kernel_rfl) Tryd.func3 closed
    (of_decide_eq_true (by kernel_rfl)) (by unfold Func.isWrapper; first | (rw [if_pos (by decide +kernel)]; kernel_rfl) | (rw [if_neg (by decide +kernel)]; exact ⟨rfl, rfl⟩))
    (fun os started H enc _ => lifted os started H enc)

theorem proved : Rows.FnTermTextCardSaid :=
  Claim7.holds_tied_plain_at .later [] [.data, .data, .data] true Rows.fnTermTextCard.stood.harness false
    over (fun _ h => by cases h) (by kernel_rfl) (fun _ h => by cases h) fnTermText_row_tie rfl ⟨rfl, rfl⟩ (by kernel_rfl) rfl
    (fun f fn hf hfn => by
      obtain rfl : f = 3 := Option.some.inj ((show Tryd.prog.funcNamed "loop.example/tellersandliars/laws.FnTermText" = some 3 by kernel_rfl).symm.trans hf) |>.symm
      obtain rfl : fn = Tryd.f3 := (Option.some.inj (Tryd.func3.symm.trans hfn)).symm
      exact ⟨by kernel_rfl, fun j t ht => by
        rw [Tryd.params3] at ht
        have h3 : t = 22 := by
          rcases j with _ | j
          · simpa using ht.symm
          · simp at ht
        subst h3
        exact (show Tryd.prog.wantsStandIn 22 = false by kernel_rfl)⟩)
    (by kernel_rfl)
end Go.Proofs.YtmcdfbjmbelklaaDoor.fnTermText
