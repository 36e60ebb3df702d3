/- A law of chapter 2: read texts are canonical. It answers true, whatever the code. No condition. The three tables of Go's library are laid; no walk reads them. -/
import Derived.Test.YtmcdfbjmbelklaaDoorDrawR
import Derived.Test.YtmcdfbjmbelklaaDoorMarksC
import Derived.Test.YtmcdfbjmbelklaaDoorLawsA
import Derived.Test.YtmcdfbjmbelklaaDoorDoor
namespace Go.Proofs.YtmcdfbjmbelklaaDoor
open Go.RowKit Go.Joins
theorem held_cat (s : List UInt8) : (⟨#[40]⟩ : ByteArray) ++ ⟨s.toArray⟩ ++ ⟨#[41]⟩ = ⟨(40 :: (s ++ [41])).toArray⟩ := by
  rw [show (⟨#[40]⟩ : ByteArray) = ⟨[40].toArray⟩ from rfl, show (⟨#[41]⟩ : ByteArray) = ⟨[41].toArray⟩ from rfl, bs_append, bs_append]
  simp
theorem read_facts {p : Int} {s : List UInt8} {m : List (Int × Int)} (h : rdV p s = some m) : textV p m = s ∧ termOk p m = true := by
  obtain ⟨t, hok, ht, rfl, rfl⟩ := rdV_iff.1 h
  exact ⟨textV_of hok ht, hok⟩
end Go.Proofs.YtmcdfbjmbelklaaDoor

namespace Go.Proofs.YtmcdfbjmbelklaaDoor.fnReadTerm
open Go.ChangeShapes Go.WideShapes Go.ChangeAt Go.RowKit Go.Joins
attribute [local irreducible] txt textV rdV mcells
open Go.ChangeMaps (open_string shut_string)
set_option linter.unusedVariables false
set_option maxRecDepth 100000 in
set_option maxHeartbeats 2000000 in
theorem walk (a0 : Value) (n0 : Nat) (w : World) (w0 : RdBytes w w.heap.size a0 n0) :
    Calls Tryd.prog 4 #[a0] w fun e w' => e = .returned (.bool true) ∧ Below w.heap.size w w' := by
  have hr := w0
  by_cases hbig : n0 ≤ 1048576
  case neg =>
    obtain ⟨ao, cap, rfl, hl, hm, hc⟩ := w0
    have hbig' := code_big hbig
    unfold maxLen at hm
    clear hc hr hbig
    go_enter Tryd.func4, Tryd.ntmps4
    go_wp2
    go_ret
    exact ⟨rfl, Below.refl _ _⟩
  have hbig' : (n0 : Int) ≤ 1048576 := by omega
  clear hbig
  obtain ⟨ao, cap, rfl, hl, hm, hc⟩ := w0
  have Hr := Lib.hid hr
  clear hc hr hl hm
  go_enter Tryd.func4, Tryd.ntmps4
  go_wp2_with fail
  refine (drawReadTerm _ _ _ Hr.out).mono ?_
  rintro e w1 ⟨p, s, hp1, hp8, rfl, hs, hB1⟩
  have him := fun W => implReadIs p s (by omega) W
  have hsp := fun W => specReadIs p s (by omega) W
  unfold ReadIs at him hsp
  cases hrv : rdV p s with
  | none =>
    rw [hrv] at him hsp
    simp only [Option.isSome_none, Option.getD_none, List.length_nil] at him hsp
    have Him := Lib.hid him; clear him
    have Hsp := Lib.hid hsp; clear hsp
    clear hrv
    go_wp2_with fail
    refine (Him.out _).mono ?_
    rintro e w2 ⟨hb2, v2, rfl, hown2, hi2⟩
    have hB2 : Below w.heap.size w w2 := hB1.trans (hb2.mono hB1.size)
    go_wp2_with fail
    refine (Hsp.out _).mono ?_
    rintro e w3 ⟨hb3, v3, rfl, hown3, hi3⟩
    have hB3 : Below w.heap.size w w3 := hB2.trans (hb3.mono hB2.size)
    have Hr2 := Lib.hid (RdMarks.of_own (ms := []) (own_below hown2 hb3) hi2)
    have Hr3 := Lib.hid (RdMarks.of_own (ms := []) hown3 hi3)
    have hf := ownsRow_forms hown2
    clear hb2 hb3 hown2 hown3
    go_wp2_with fail
    refine (sameMarks [] [] _ _ _ _ _ Hr2.out Hr3.out).mono ?_
    rintro e w' ⟨rfl, n5, rfl⟩
    rw [show decide (([] : List (Int × Int)) = []) = true from by simp]
    rcases hf with ⟨rfl, _⟩ | ⟨gg, cc, rfl⟩
    · go_wp2_with fail
      refine (alive _).mono ?_
      rintro e w' ⟨rfl, rfl⟩
      go_wp2
      go_ret
      exact ⟨rfl, ⟨hB3.os, hB3.tape, hB3.output, hB3.size, hB3.block⟩⟩
    · go_wp2_with fail
      refine (alive _).mono ?_
      rintro e w' ⟨rfl, rfl⟩
      go_wp2
      go_ret
      exact ⟨rfl, ⟨hB3.os, hB3.tape, hB3.output, hB3.size, hB3.block⟩⟩
  | some m =>
    obtain ⟨htx, hok⟩ := read_facts hrv
    have hno := rdV_held hrv
    have hin := fun W => implReadIs p (40 :: (s ++ [41])) (by simp; omega) W
    unfold ReadIs at hin
    rw [hno, show (sv (40 :: (s ++ [41])) : Value) = .string ((⟨#[40]⟩ : ByteArray) ++ ⟨s.toArray⟩ ++ ⟨#[41]⟩) from by rw [held_cat]] at hin
    simp only [Option.isSome_none, Option.getD_none, List.length_nil] at hin
    rw [hrv] at him hsp
    simp only [Option.isSome_some, Option.getD_some] at him hsp
    have Him := Lib.hid him; clear him
    have Hsp := Lib.hid hsp; clear hsp
    have Hin := Lib.hid hin; clear hin
    have Htx := Lib.hid htx; clear htx
    have Hok := Lib.hid hok; clear hok
    clear hrv hno
    have hz : ¬ 9223372036854775807 < 1 + s.length := by omega
    have hz2 : ¬ 9223372036854775807 < 1 + s.length + 1 := by omega
    have hz3 : ¬ 9223372036854775807 < s.length + 1 := by omega
    have hz4 : ¬ 9223372036854775807 < s.length + 1 + 1 := by omega
    go_wp2_with fail
    refine (Him.out _).mono ?_
    rintro e w2 ⟨hb2, v2, rfl, hown2, hi2⟩
    have hB2 : Below w.heap.size w w2 := hB1.trans (hb2.mono hB1.size)
    go_wp2_with fail
    refine (Hsp.out _).mono ?_
    rintro e w3 ⟨hb3, v3, rfl, hown3, hi3⟩
    have hB3 : Below w.heap.size w w3 := hB2.trans (hb3.mono hB2.size)
    have Hr2 := Lib.hid (RdMarks.of_own (own_below hown2 hb3) hi2)
    have Hr3 := Lib.hid (RdMarks.of_own hown3 hi3)
    clear hb2 hb3 hown2 hown3
    go_wp2_with fail
    refine (sameMarks m m _ _ _ _ _ Hr2.out Hr3.out).mono ?_
    rintro e w' ⟨rfl, n5, rfl⟩
    rw [show decide (m = m) = true from by simp]
    have hB3' : Below w.heap.size w (w3.drewN n5) := ⟨hB3.os, hB3.tape, hB3.output, hB3.size, hB3.block⟩
    have Hr3' : Hid (RdMarks (w3.drewN n5) (w3.drewN n5).heap.size v2 m) := Hr2.out
    generalize w3.drewN n5 = w4 at *
    clear Hr2 Hr3 hB3
    go_wp2_with fail
    refine (Hin.out _).mono ?_
    rintro e w5 ⟨hb5, v5, rfl, hown5, hi5⟩
    have hB5 : Below w.heap.size w w5 := hB3'.trans (hb5.mono hB3'.size)
    have Hr5 := Lib.hid (Hr3'.out.kept hb5)
    clear hb5 hown5 Hr3'
    go_wp2_with fail
    refine (implTermText p m _ _ _ Hr5.out (Nat.le_refl _)).mono ?_
    rintro e w6 ⟨rfl, hb6⟩
    rw [Htx.out]
    have hB6 : Below w.heap.size w w6 := hB5.trans (hb6.mono hB5.size)
    have Hr6 := Lib.hid (Hr5.out.kept hb6)
    clear hb6 Hr5
    go_wp2_with fail
    refine (implTermOk p m _ _ _ Hr6.out (Nat.le_refl _)).mono ?_
    rintro e w7 ⟨rfl, hb7⟩
    rw [Hok.out]
    have hB7 : Below w.heap.size w w7 := hB6.trans (hb7.mono hB6.size)
    clear hb7
    go_wp2
    go_ret
    exact ⟨rfl, hB7⟩

set_option maxRecDepth 100000 in
theorem lifted (os : Os) (started : os.Started) (H : Type) (enc : TypeId × Value → H) :
    ReturnsInHanded {} Tryd.checked os 4 .any (fun w args => (Rows.fnReadTermSpec.pre enc Tryd.prog Tryd.f4 Rows.fnReadTermRow.domain false w args ∧ laidMet Tryd.prog tabs w) ∧ sizedMet enc Tryd.prog Tryd.f4 (OpenSpec.ofChange Rows.fnReadTermSpec) false w args) (Rows.fnReadTermSpec.post enc Tryd.prog Tryd.f4 false true false false) := by
  refine returnsInHanded_of_change_and (C := Tryd.checked) (X := fun w _ => laidMet Tryd.prog tabs w) (fun _ _ _ hh h => h.of_heap hh) Tryd.own started (by kernel_rfl) Tryd.func4
    (ChangeSpec.witness_at (enc := enc) (C := Tryd.checked) (os := os) (X := fun w _ => laidMet Tryd.prog tabs w) false (laidWorld os) #[.slice none 0 0] 8 rfl (by kernel_rfl) (by kernel_rfl) (by kernel_rfl) (by kernel_rfl) (by kernel_rfl) (laidWorld_met os _)) ?_
  intro W base args ds gs before hval0 hW hcnd _ hL _
  have hval : ∀ (j : Nat) t v, Tryd.f4.params[j]? = some t → args[j]? = some v → Value.okWide Tryd.prog W .any base t v := hval0
  have hW' := hW
  obtain ⟨p, q, hA0, hV, rfl, hfz, hnd⟩ := hW
  have hA : DataW.TrodAll enc Tryd.prog W 0 (fun _ => true) true Tryd.f4.params.toList args.toList ds p := hA0
  rw [Tryd.params4] at hA hval
  obtain ⟨v0, vs0, d0, ds0, p0, q0, hargs, rfl, rfl, h0, r0⟩ := trodAll_cons hA
  obtain ⟨rfl, rfl, rfl⟩ := trodAll_nil r0
  obtain rfl : args = #[v0] := by cases args; simp_all
  obtain ⟨rfl, rfl⟩ := trodVars_none hV
  obtain ⟨a0, len0, cap0, rfl⟩ := okWide_slice Tryd.underlying22 (hval 0 22 v0 rfl rfl)
  have k0 := h0
  have lt0 : ∀ x ∈ p0, x.block < W.heap.size := by obtain ⟨m, hm⟩ := k0; exact DataW.trod_lt m _ _ _ hm
  obtain ⟨z0, w0⟩ : ∃ zs, IsRow .u8 W a0 len0 cap0 zs := by
    obtain ⟨fuel, hf⟩ := h0
    rcases open_ints Tryd.underlying22 Tryd.underlying5 (by kernel_rfl) hf with ⟨hcs, _⟩ | ⟨x, l, c, zs, hcs, _, hl, hm, hz, _, hcell, hwz⟩
    · simp [Value.cells] at hcs
      obtain ⟨rfl, rfl, rfl⟩ := hcs
      exact ⟨[], .inl ⟨rfl, rfl, rfl, rfl⟩⟩
    · simp [Value.cells] at hcs
      obtain ⟨rfl, rfl, rfl⟩ := hcs
      exact ⟨zs, .inr ⟨_, rfl, hl, hm, by simpa using hz, hcell, hwz⟩⟩
  clear hA0 hval0
  refine (walk _ _ W (RdBytes.of_row w0)).mono fun e W' ⟨he, bel⟩ => ?_
  subst he
  exact ⟨_, rfl, _, _, _, [], _, [], hW', trodAll_mk1 (shut_bool Tryd.underlying4 _), (trodAll_cons_mk (Below.trod Tryd.laidOut (by kernel_rfl) (of_decide_eq_true (by kernel_rfl)) k0 bel lt0) trodAll_mk0), rfl, bel.frame _, fun h => by cases h⟩

theorem closed : joinedFacts Tryd.pinned.checked.prog 4 Tryd.f4 Rows.fnReadTermSpec Rows.fnReadTermRow = true := by
  unfold joinedFacts
  exact (and_tt (and_tt (and_tt (and_tt (and_tt (and_tt (and_tt (and_tt (and_tt (and_tt (and_tt (and_tt (and_tt (and_tt (and_tt (and_tt (and_tt (and_tt (and_tt (and_tt (and_tt (and_tt (and_tt (and_tt (and_tt (and_tt (and_tt (and_tt (and_tt (and_tt (and_tt (by kernel_rfl) (by kernel_rfl)) (by kernel_rfl)) (by kernel_rfl)) (by kernel_rfl)) (by kernel_rfl)) (by kernel_rfl)) (by kernel_rfl)) (by kernel_rfl)) (by kernel_rfl)) (by kernel_rfl)) (by kernel_rfl)) (by kernel_rfl)) (by kernel_rfl)) (by kernel_rfl)) (by kernel_rfl)) (by kernel_rfl)) (by kernel_rfl)) (by kernel_rfl)) (by kernel_rfl)) (by kernel_rfl)) (by kernel_rfl)) (by kernel_rfl)) (by kernel_rfl)) (by kernel_rfl)) Tryd.mayEnter0) (lifted_tt Tryd.lifts0 rfl)) (make_tt Tryd.make0 rfl)) (by kernel_rfl)) (by kernel_rfl)) (by kernel_rfl)) (by kernel_rfl))
theorem over : Rows.fnReadTermRow.holds Tryd.pinned (OpenSpec.ofChange Rows.fnReadTermSpec) :=
  OpenClaim.holds_of_wide 4 Tryd.f4 rfl rfl rfl rfl rfl rfl rfl ⟨rfl, rfl, rfl, rfl, rfl⟩ rfl rfl rfl rfl rfl (by kernel_rfl) Tryd.func4 closed
    (of_decide_eq_true (by kernel_rfl)) (by unfold Func.isWrapper; first | (rw [if_pos (by decide +kernel)]; kernel_rfl) | (rw [if_neg (by decide +kernel)]; exact ⟨rfl, rfl⟩))
    (fun os started H enc _ => lifted os started H enc)

theorem proved : Rows.FnReadTermCardSaid :=
  Claim7.holds_tied_plain_at .later [] [.data, .data, .data] true Rows.fnReadTermCard.stood.harness false
    over (fun _ h => by cases h) (by kernel_rfl) (fun _ h => by cases h) fnReadTerm_row_tie rfl ⟨rfl, rfl⟩ (by kernel_rfl) rfl
    (fun f fn hf hfn => by
      obtain rfl : f = 4 := Option.some.inj ((show Tryd.prog.funcNamed "loop.example/tellersandliars/laws.FnReadTerm" = some 4 by kernel_rfl).symm.trans hf) |>.symm
      obtain rfl : fn = Tryd.f4 := (Option.some.inj (Tryd.func4.symm.trans hfn)).symm
      exact ⟨by kernel_rfl, fun j t ht => by
        rw [Tryd.params4] at ht
        have h3 : t = 22 := by
          rcases j with _ | j
          · simpa using ht.symm
          · simp at ht
        subst h3
        exact (show Tryd.prog.wantsStandIn 22 = false by kernel_rfl)⟩)
    (by kernel_rfl)
end Go.Proofs.YtmcdfbjmbelklaaDoor.fnReadTerm
