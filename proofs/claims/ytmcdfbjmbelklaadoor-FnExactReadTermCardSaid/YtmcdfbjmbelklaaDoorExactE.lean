/- Exact law of chapter 2: a text is read as the reference reads it. No condition. The three tables of Go's library are laid; no walk reads them. -/
import Derived.Test.YtmcdfbjmbelklaaDoorMarksC
import Derived.Test.YtmcdfbjmbelklaaDoorMarksH
import Derived.Test.YtmcdfbjmbelklaaDoorReadP
import Derived.Test.YtmcdfbjmbelklaaDoorDoor
import Derived.Test.YtmcdfbjmbelklaaDoorFrame
namespace Go.Proofs.YtmcdfbjmbelklaaDoor
open Go.RowKit Go.Joins
theorem read_short (p : Int) (s : List UInt8) : ((rdV p s).getD []).length ≤ 15 := by
  cases h : rdV p s with
  | none => simp
  | some m => simpa using (rdV_len h).2
end Go.Proofs.YtmcdfbjmbelklaaDoor

namespace Go.Proofs.YtmcdfbjmbelklaaDoor.fnExactReadTerm
open Go.ChangeShapes Go.WideShapes Go.ChangeAt Go.RowKit
attribute [local irreducible] lay rdV mcells
open Go.ChangeMaps (open_string shut_string)
set_option linter.unusedVariables false
set_option maxRecDepth 100000 in
set_option maxHeartbeats 2000000 in
theorem walk (a0 : Int) (a1 : ByteArray) (w : World) (w0 : (Lit.int .i64 a0).wf = true) (w1 : a1.size ≤ maxLen) :
    Calls Tryd.prog 7 #[.int .i64 a0, .string a1] w fun e w' => e = .returned (.bool true) ∧ Below w.heap.size w w' := by
  obtain ⟨s, rfl⟩ : ∃ s : List UInt8, a1 = ⟨s.toArray⟩ := ⟨a1.data.toList, by simp⟩
  have hsz : (⟨s.toArray⟩ : ByteArray).size = s.length := by simp [ByteArray.size]
  unfold maxLen at w1
  rw [hsz] at w1
  clear hsz
  by_cases hbig : s.length ≤ 1048576
  case neg =>
    have hbig' : (1048576 : Int) < (s.length : Int) := by omega
    clear hbig
    go_enter Tryd.func7, Tryd.ntmps7
    go_wp2
    go_ret
    exact ⟨rfl, Below.refl _ _⟩
  have hbig' : (s.length : Int) ≤ 1048576 := by omega
  have hsp := fun W => specReadIs a0 s (by omega) W
  have him := fun W => implReadIs a0 s (by omega) W
  have hxl := read_short a0 s
  unfold ReadIs at hsp him
  generalize hxs : (rdV a0 s).getD [] = xs at *
  generalize hoo : (rdV a0 s).isSome = o at *
  clear hxs hoo
  have Hsp := Lib.hid hsp; clear hsp
  have Him := Lib.hid him; clear him
  go_enter Tryd.func7, Tryd.ntmps7
  go_wp2_with fail
  refine (Hsp.out _).mono ?_
  rintro e w1 ⟨hb1, vw, rfl, hownw, hi⟩
  have Hi := Lib.hid hi
  have hwlo : Hid (∀ k, vw.ownBlock = some k → k < w1.heap.size) := fun k hk => (hownw.lt k hk).2
  go_wp2_with fail
  refine (Him.out _).mono ?_
  rintro e w2 ⟨hb2, vg, rfl, howng, _⟩
  have hglo : Hid (∀ k, vg.ownBlock = some k → w1.heap.size ≤ k) := fun k hk => (howng.lt k hk).1
  have hB2 : Below w.heap.size w w2 := hb1.trans (hb2.mono hb1.size)
  have Hownw2 := Lib.hid (own_below hownw hb2)
  have Howng2 := Lib.hid howng
  have hs1 := hb1.size
  clear hb1 hb2 hownw howng hi
  go_wp2_with fail
  refine (eqMarkS xs xs _ _ _ _ _ (RdMarks.of_own Howng2.out Hi.out) (RdMarks.of_own Hownw2.out Hi.out) (Nat.le_refl _) (Nat.le_refl _)).mono ?_
  rintro e w3 ⟨rfl, hb3⟩
  rw [show decide (xs = xs) = true from by simp]
  have hB3 : Below w.heap.size w w3 := hB2.trans (hb3.mono hB2.size)
  have Hownw3 := Lib.hid (own_below Hownw2.out hb3)
  have Howng3 := Lib.hid (own_below Howng2.out hb3)
  clear hb3 Hownw2 Howng2
  go_wp2_with fail
  refine (markMarkS xs 1 (by omega) _ _ _ Howng3.out).mono ?_
  rintro e w4 ⟨rfl, hown4, hg4⟩
  have hB4 : Below w.heap.size w w4 := hB3.grown hg4 hB3.size (fun k hk => by have := hglo.out k hk; omega)
  have Hownw4 := Lib.hid (Hownw3.out.kept hg4 (own_apart (fun k hk => hwlo.out k hk) (fun k hk => hglo.out k hk)))
  generalize hn : xs.length = n at *
  have Hn := Lib.hid hn; clear hn
  have Hrd4 : Hid (RdMarks w4 w4.heap.size vg (lay 1 n)) := RdMarks.of_own (by rw [lay_length]; exact hown4) (lay_I64 (by omega))
  clear hg4 hown4 Hownw3 Howng3
  have hm4 : (0 : Int) ≤ ((1 + n * 2 : Nat) : Int) := by omega
  generalize hM : 1 + n * 2 = M at *
  have HM := Lib.hid hM; clear hM
  go_wp2_with fail
  refine (heldMarkS n 1 (by omega) _ _ _ Hrd4.out).mono ?_
  rintro e w4' ⟨rfl, rfl⟩
  rw [HM.out]
  go_wp2_with fail
  refine (Him.out _).mono ?_
  rintro e w5 ⟨hb5, vh, rfl, hownh, _⟩
  have hB5 : Below w.heap.size w w5 := hB4.trans (hb5.mono hB4.size)
  have Hownh : Hid (w5.ownsRow w4.heap.size TM 2 vh xs.length (mcells xs)) := by unfold Hid; rw [Hn.out]; exact hownh
  have Hownw5 : Hid (w5.ownsRow w.heap.size TM 2 vw xs.length (mcells xs)) := by unfold Hid; rw [Hn.out]; exact own_below Hownw4.out hb5
  have Hrd5 := Lib.hid (Hrd4.out.kept hb5)
  clear hb5 hownh Hownw4 Hrd4
  go_wp2_with fail
  refine (eqMarkS xs xs _ _ _ _ _ (RdMarks.of_own Hownh.out Hi.out) (RdMarks.of_own Hownw5.out Hi.out) (Nat.le_refl _) (Nat.le_refl _)).mono ?_
  rintro e w6 ⟨rfl, hb6⟩
  rw [show decide (xs = xs) = true from by simp]
  have hB6 : Below w.heap.size w w6 := hB5.trans (hb6.mono hB5.size)
  have Hrd6 := Lib.hid (Hrd5.out.kept hb6)
  clear hb6 Hrd5 Hownh Hownw5
  go_wp2_with fail
  refine (heldMarkS n 1 (by omega) _ _ _ Hrd6.out).mono ?_
  rintro e w7 ⟨rfl, rfl⟩
  rw [HM.out]
  go_wp2
  go_ret
  exact ⟨rfl, hB6⟩

set_option maxRecDepth 100000 in
theorem lifted (os : Os) (started : os.Started) (H : Type) (enc : TypeId × Value → H) :
    ReturnsInHanded {} Tryd.checked os 7 .any (fun w args => (Rows.fnExactReadTermSpec.pre enc Tryd.prog Tryd.f7 Rows.fnExactReadTermRow.domain false w args ∧ laidMet Tryd.prog tabs w) ∧ sizedMet enc Tryd.prog Tryd.f7 (OpenSpec.ofChange Rows.fnExactReadTermSpec) false w args) (Rows.fnExactReadTermSpec.post enc Tryd.prog Tryd.f7 false true false false) := by
  refine returnsInHanded_of_change_and (C := Tryd.checked) (X := fun w _ => laidMet Tryd.prog tabs w) (fun _ _ _ hh h => h.of_heap hh) Tryd.own started (by kernel_rfl) Tryd.func7
    (ChangeSpec.witness_at (enc := enc) (C := Tryd.checked) (os := os) (X := fun w _ => laidMet Tryd.prog tabs w) false (laidWorld os) #[.int .i64 0, .string ByteArray.empty] 8 rfl (by kernel_rfl) (by kernel_rfl) (by kernel_rfl) (by kernel_rfl) (by kernel_rfl) (laidWorld_met os _)) ?_
  intro W base args ds gs before hval0 hW hcnd _ hL _
  have hval : ∀ (j : Nat) t v, Tryd.f7.params[j]? = some t → args[j]? = some v → Value.okWide Tryd.prog W .any base t v := hval0
  have hW' := hW
  obtain ⟨p, q, hA0, hV, rfl, hfz, hnd⟩ := hW
  have hA : DataW.TrodAll enc Tryd.prog W 0 (fun _ => true) true Tryd.f7.params.toList args.toList ds p := hA0
  rw [Tryd.params7] at hA hval
  obtain ⟨v0, vs0, d0, ds0, p0, q0, hargs, rfl, rfl, h0, r0⟩ := trodAll_cons hA
  obtain ⟨v1, vs1, d1, ds1, p1, q1, rfl, rfl, rfl, h1, r1⟩ := trodAll_cons r0
  obtain ⟨rfl, rfl, rfl⟩ := trodAll_nil r1
  obtain rfl : args = #[v0, v1] := by cases args; simp_all
  obtain ⟨rfl, rfl⟩ := trodVars_none hV
  obtain ⟨a0, rfl, rfl, rfl, w0⟩ := open_int Tryd.underlying3 (hval 0 3 v0 rfl rfl) h0
  obtain ⟨a1, rfl, rfl, rfl, w1⟩ := open_string Tryd.underlying9 (hval 1 9 v1 rfl rfl) h1
  clear hA0 hval0
  refine (walk a0 a1 W w0 w1).mono fun e W' ⟨he, bel⟩ => ?_
  subst he
  exact ⟨_, rfl, _, _, _, [], _, [], hW', trodAll_mk1 (shut_bool Tryd.underlying4 _), (trodAll_cons_mk (shut_int Tryd.underlying3 w0) (trodAll_cons_mk (shut_string Tryd.underlying9 w1) trodAll_mk0)), rfl, bel.frame _, fun h => by cases h⟩

theorem closed : joinedFacts Tryd.pinned.checked.prog 7 Tryd.f7 Rows.fnExactReadTermSpec Rows.fnExactReadTermRow = true := by
  unfold joinedFacts
  exact (and_tt (and_tt (and_tt (and_tt (and_tt (and_tt (and_tt (and_tt (and_tt (and_tt (and_tt (and_tt (and_tt (and_tt (and_tt (and_tt (and_tt (and_tt (and_tt (and_tt (and_tt (and_tt (and_tt (and_tt (and_tt (and_tt (and_tt (and_tt (and_tt (and_tt (and_tt (by kernel_rfl) (by kernel_rfl)) (by kernel_rfl)) (by kernel_rfl)) (by kernel_rfl)) (by kernel_rfl)) (by kernel_rfl)) (by kernel_rfl)) (by kernel_rfl)) (by kernel_rfl)) (by kernel_rfl)) (by kernel_rfl)) (by kernel_rfl)) (by kernel_rfl)) (by kernel_rfl)) (by kernel_rfl)) (by kernel_rfl)) (by kernel_rfl)) (by kernel_rfl)) (by kernel_rfl)) (by kernel_rfl)) (by kernel_rfl)) (by kernel_rfl)) (by kernel_rfl)) (by kernel_rfl)) Tryd.mayEnter0) (lifted_tt Tryd.lifts0 rfl)) (make_tt Tryd.make0 rfl)) (by kernel_rfl)) (by kernel_rfl)) (by kernel_rfl)) (by kernel_rfl))
theorem over : Rows.fnExactReadTermRow.holds Tryd.pinned (OpenSpec.ofChange Rows.fnExactReadTermSpec) :=
  OpenClaim.holds_of_wide 7 Tryd.f7 rfl rfl rfl rfl rfl rfl rfl ⟨rfl, rfl, rfl, rfl, rfl⟩ rfl rfl rfl rfl rfl (by kernel_rfl) Tryd.func7 closed
    (of_decide_eq_true (by kernel_rfl)) (by unfold Func.isWrapper; first | (rw [if_pos (by decide +kernel)]; kernel_rfl) | (rw [if_neg (by decide +kernel)]; exact ⟨rfl, rfl⟩))
    (fun os started H enc _ => lifted os started H enc)

theorem proved : Rows.FnExactReadTermCardSaid :=
  Claim7.holds_tied_plain_at .later [] [.data, .data, .data] true Rows.fnExactReadTermCard.stood.harness false
    over (fun _ h => by cases h) (by kernel_rfl) (fun _ h => by cases h) fnExactReadTerm_row_tie rfl ⟨rfl, rfl⟩ (by kernel_rfl) rfl
    (fun f fn hf hfn => by
      obtain rfl : f = 7 := Option.some.inj ((show Tryd.prog.funcNamed "loop.example/tellersandliars/laws.FnExactReadTerm" = some 7 by kernel_rfl).symm.trans hf) |>.symm
      obtain rfl : fn = Tryd.f7 := (Option.some.inj (Tryd.func7.symm.trans hfn)).symm
      exact ⟨by kernel_rfl, fun j t ht => by
        rw [Tryd.params7] at ht
        have h3 : t = 3 ∨ t = 9 := by
          rcases j with _ | _ | j
          · left; simpa using ht.symm
          · right; simpa using ht.symm
          · simp at ht
        rcases h3 with rfl | rfl
        · exact (show Tryd.prog.wantsStandIn 3 = false by kernel_rfl)
        · exact (show Tryd.prog.wantsStandIn 9 = false by kernel_rfl)⟩)
    (by kernel_rfl)
end Go.Proofs.YtmcdfbjmbelklaaDoor.fnExactReadTerm
