/- A law of stage 10: all sets that fit are listed. It answers true, whatever the code. No condition. -/
import Derived.Test.YtnkgbolgcmjadaaDrawY
import Derived.Test.YtnkgbolgcmjadaaFaultI
import Derived.Test.YtnkgbolgcmjadaaFaultL
import Derived.Test.YtnkgbolgcmjadaaLawsA
import Derived.Deep.RegionHeld3
import Derived.Deep.Cut
import Derived.Test.YtnkgbolgcmjadaaRowsH
import Derived.Test.YtnkgbolgcmjadaaHelpers
namespace Go.Proofs.Ytnkgbolgcmjadaa
open Go.RowKit Go.Joins
theorem RdInts.kept9 {w w' : World} {v : Value} {zs : List Int} (h : RdInts w w.heap.size v zs) (hb : Below w.heap.size w w') : RdInts w' w'.heap.size v zs := (h.below hb.block).mono hb.size
theorem rdNums9 {w : World} {base : Nat} {v : Value} {L : List Nat} (h : w.ownsRow base 3 1 v L.length (vals L)) : RdInts w w.heap.size v (nums L) :=
  RdInts.of_own (e := 3) (base := base) (by rw [show (nums L).length = L.length by simp [nums], ← vals_nums]; exact h)
theorem nums_len9 (L : List Nat) : (nums L).length = L.length := by simp [nums]
theorem nums_one9 (X : Nat) : nums [X] = [(X : Int)] := rfl
theorem nums_inj9 {L M : List Nat} : nums L = nums M ↔ L = M := by
  constructor
  · intro h
    refine List.ext_getElem (by have := congrArg List.length h; rwa [nums_len9, nums_len9] at this) fun j h1 h2 => ?_
    have := congrArg (fun l : List Int => l[j]?) h
    simp only [nums, List.getElem?_map, List.getElem?_eq_getElem h1, List.getElem?_eq_getElem h2, Option.map_some, Option.some.injEq] at this
    exact Int.ofNat_inj.1 this
  · rintro rfl; rfl
end Go.Proofs.Ytnkgbolgcmjadaa
namespace Go.Proofs.Ytnkgbolgcmjadaa.fnFaultSets
open Go.ChangeShapes Go.WideShapes Go.ChangeAt Go.RowKit Go.Joins
attribute [local irreducible] synOk rowOk entOk fitsN fitsK toldE bitI fitsV setsN setsF votesF votesN heads madeE madeRow madeL madeV madeOk sureN onlyFN onlyFOk nums
open Go.ChangeMaps (open_string shut_string)
set_option linter.unusedVariables false
set_option maxRecDepth 100000 in
set_option maxHeartbeats 8000000 in
theorem walk (a0 : Value) (n0 : Nat) (w : World) (w0 : RdBytes w w.heap.size a0 n0) :
    Calls Try.prog 5 #[a0] w fun e w' => e = .returned (.bool true) ∧ Below w.heap.size w w' := by
  have hr := w0
  by_cases hbig : n0 ≤ 1048576
  case neg =>
    obtain ⟨ao, cap, rfl, hl, hm, hc⟩ := w0
    have hbig' := code_big hbig
    unfold maxLen at hm
    clear hc hr hbig
    go_enter Try.func5, Try.ntmps5
    go_wp2
    go_ret
    exact ⟨rfl, Below.refl _ _⟩
  have hbig' : (n0 : Int) ≤ 1048576 := by omega
  clear hbig
  obtain ⟨ao, cap, rfl, hl, hm, hc⟩ := w0
  have Hr := Lib.hid hr
  clear hc hr hl hm
  go_enter Try.func5, Try.ntmps5
  go_wp2_with fail
  refine (drawFaultSets _ _ _ Hr.out).mono ?_
  rintro e w1 ⟨v, rs, x, rfl, hri, hsp, hx0, hx1, hB1⟩
  obtain ⟨so, sc, rfl⟩ := own_len9 hri.1
  have HR1 := Lib.hid hri.rd
  have HB1 := Lib.hid hB1
  have hrl := drewS_small hsp
  clear hri hB1
  have hlen : (rs.map (·.2)).length = rs.length := by simp
  have Hif := Lib.hid (fun w h h2 => implFaultSets rs x w.heap.size (.slice so rs.length sc) w h h2)
  have Hsf := Lib.hid (fun B w h h2 => specFaultSets rs x B (.slice so rs.length sc) w h h2)
  have Hso := Lib.hid (fun B w h => specSyndromeOk rs B (.slice so rs.length sc) w h)
  have Hff := Lib.hid (fun y w h h2 => implFitsFaults rs y w.heap.size (.slice so rs.length sc) w h h2)
  have Hemp := Lib.hid (fun h => setsN_no (s := rs.map (·.2)) (m := x) h)
  have Hhas := Lib.hid (fun (hs : synOk (rs.map (·.2)) = true) (X : Nat) (hX : X < 2 ^ (rs.map (·.2)).length) => (sets_has (m := x) hs hX).trans (by rw [← fitsV_in hs hX]))
  have Hasc := Lib.hid (nums_asc (setsN_asc (rs.map (·.2)) x))
  rw [hlen] at Hhas
  have Hsyn := Lib.hid (fun h => syn_rows (rs := rs) h)
  generalize hL : setsN (rs.map (·.2)) x = L at *
  clear hL hlen
  generalize rs.map (·.2) = s at *
  go_wp2_with fail
  refine (Hif.out _ HR1.out (Nat.le_refl _)).mono ?_
  rintro e w2 ⟨vA, rfl, hoA, hb2⟩
  obtain ⟨aA, cA, rfl⟩ := own_len9 hoA
  have HA2 := Lib.hid (rdNums9 hoA)
  clear hoA
  have HR2 := Lib.hid (HR1.out.kept hb2)
  have HB2 := Lib.hid (HB1.out.trans (hb2.mono HB1.out.size))
  clear hb2
  go_wp2_with fail
  refine (Hsf.out _ _ HR2.out (Nat.le_refl _)).mono ?_
  rintro e w3 ⟨vC, rfl, hoC, hb3⟩
  obtain ⟨aC, cC, rfl⟩ := own_len9 hoC
  have HC3 := Lib.hid (rdNums9 hoC)
  clear hoC
  have HR3 := Lib.hid (HR2.out.kept hb3)
  have HB3 := Lib.hid (HB2.out.trans (hb3.mono HB2.out.size))
  have HA3 := Lib.hid (HA2.out.kept9 hb3)
  clear hb3
  have Hsi := Lib.hid (sameInts (nums L) (nums L) _ _ _ _ w3 HA3.out HC3.out)
  rw [decide_eq_true rfl] at Hsi
  clear HC3 HA2
  go_wp2_with fail
  refine (Hsi.out).mono ?_
  rintro e w4 ⟨rfl, nd4, hnd4⟩
  have hb4 : Below w3.heap.size w3 w4 := by rw [← hnd4]; exact below_drewN9 (Below.refl _ _) _
  clear hnd4
  have HR4 := Lib.hid (HR3.out.kept hb4)
  have HB4 := Lib.hid (HB3.out.trans (hb4.mono HB3.out.size))
  have HA4 := Lib.hid (HA3.out.kept9 hb4)
  clear hb4
  clear Hsi HA3
  cases hs : synOk s with
  | false =>
    have hl0 : L.length = 0 := by rw [Hemp.out hs]; rfl
    rw [hs] at Hso
    clear hs Hhas Hsyn Hasc
    go_wp2_with fail
    refine (Hso.out _ _ HR4.out).mono ?_
    rintro e w' ⟨rfl, rfl⟩
    clear HA4
    go_wp2_with fail
    refine (alive _).mono ?_
    rintro e w' ⟨rfl, rfl⟩
    go_wp2
    go_ret
    exact ⟨rfl, HB4.out⟩
  | true =>
    rw [hs] at Hso
    obtain ⟨hn5, hn1, _⟩ := Hsyn.out hs
    have Hhas1 := Lib.hid (Hhas.out hs)
    obtain ⟨N, hN⟩ : ∃ N, N = 2 ^ rs.length := ⟨_, rfl⟩
    rw [← hN] at Hhas1
    have hN32 : N ≤ 32 := by rw [hN]; exact two32 hn5
    have hsh := shl_5 hn5 hN
    have hshk := shl_5k hn5 hN
    have hmn : min rs.length 64 = rs.length := by omega
    have Hsh := Lib.hid hsh
    have Hshk := Lib.hid hshk
    have Hmn := Lib.hid hmn
    clear hs Hhas Hsyn hN Hemp hsh hshk hmn
    go_wp2_with fail
    refine (Hso.out _ _ HR4.out).mono ?_
    rintro e w' ⟨rfl, rfl⟩
    obtain ⟨wo, rfl⟩ : ∃ wo : World, wo = w4 := ⟨_, rfl⟩
    go_wp2
    go_loopw [6] (fun i wr => ∃ X : Nat, X ≤ N ∧ i = .int .i64 X ∧ RdRows wr wr.heap.size (.slice so rs.length sc) rs ∧ RdInts wr wr.heap.size (.slice aA L.length cA) (nums L) ∧ Below w.heap.size w wr) (fun i _ => N - (intOf i).toNat)
    case atStart => exact ⟨0, Nat.zero_le _, rfl, HR4.out, HA4.out, HB4.out⟩
    case round =>
      obtain ⟨X, hX, rfl, hrr, hra, hbr⟩ := hrel
      have HRr := Lib.hid hrr
      have HAr := Lib.hid hra
      have HBr := Lib.hid hbr
      clear hrr hra hbr
      have hsh := Hsh.out
      have hshk := Hshk.out
      have hmn := Hmn.out
      by_cases hlt : X < N
      · have hh := Hhas1.out X hlt
        have Hf := Lib.hid (fun w h h2 => Hff.out (X : Int) w h h2)
        have Hhd := Lib.hid (fun w => lawHeads X (by omega) w)
        go_wp2_with fail
        refine (Hf.out _ HRr.out (Nat.le_refl _)).mono ?_
        rintro e w5 ⟨rfl, hb5⟩
        have HR5 := Lib.hid (HRr.out.kept hb5)
        have HA5 := Lib.hid (HAr.out.kept9 hb5)
        have HB5 := Lib.hid (HBr.out.trans (hb5.mono HBr.out.size))
        have Hhi := Lib.hid (fun w B h => hasInt (nums L) (X : Int) B (.slice aA L.length cA) w h)
        rw [hh] at Hhi
        clear hb5 hsh hshk hmn hh Hf HRr HAr HBr
        generalize heads X = hd at *
        cases hf : fitsV s (X : Int) with
        | false =>
          rw [hf] at Hhi
          go_wp2_with fail
          refine (Hhi.out _ _ HA5.out).mono ?_
          rintro e w' ⟨rfl, rfl⟩
          go_wp2
          go_roundw
          case rel => exact ⟨X + 1, by omega, by go_num, HR5.out, HA5.out, HB5.out⟩
          case measure => simp [intOf]; omega
        | true =>
          rw [hf] at Hhi
          go_wp2_with fail
          refine (Hhd.out _).mono ?_
          rintro e w' ⟨rfl, rfl⟩
          have hdd : (decide ((hd : Int) ≤ x) != (true && decide ((hd : Int) ≤ x))) = false := by cases decide ((hd : Int) ≤ x) <;> rfl
          go_wp2_with fail
          refine (Hhi.out _ _ HA5.out).mono ?_
          rintro e w' ⟨rfl, rfl⟩
          by_cases hm : (hd : Int) ≤ x
          all_goals
            go_wp2
            go_roundw
            case rel => exact ⟨X + 1, by omega, by go_num, HR5.out, HA5.out, HB5.out⟩
            case measure => simp [intOf]; omega
      · obtain rfl : X = N := Nat.le_antisymm hX (Nat.le_of_not_lt hlt)
        go_wp2_with fail
        refine (ascend_yes (nums L) _ _ _ HAr.out Hasc.out).mono ?_
        rintro e w5 ⟨rfl, nd5, rfl⟩
        clear hsh hshk hmn
        go_wp2_with fail
        refine (alive _).mono ?_
        rintro e w' ⟨rfl, rfl⟩
        go_wp2
        go_ret
        exact ⟨rfl, below_drewN9 HBr.out _⟩

set_option maxRecDepth 100000 in
theorem lifted (os : Os) (started : os.Started) (H : Type) (enc : TypeId × Value → H) :
    ReturnsInHanded {} Try.checked os 5 .any (Rows.fnFaultSetsSpec.pre6 enc Try.prog Try.f5 Rows.fnFaultSetsRow.domain false) (Rows.fnFaultSetsSpec.post enc Try.prog Try.f5 false true false false) := by
  refine returnsInHanded_of_change (C := Try.checked) Try.own started (by kernel_rfl) Try.func5
    (ChangeSpec.witness6 (enc := enc) (C := Try.checked) false ⟨#[], #[.slice none 0 0], []⟩ 8 (by kernel_rfl) (by kernel_rfl) (by kernel_rfl) (by kernel_rfl)) ?_
  intro W base args ds gs before hval0 hW hcnd _
  have hval : ∀ (j : Nat) t v, Try.f5.params[j]? = some t → args[j]? = some v → Value.okWide Try.prog W .any base t v := hval0
  have hW' := hW
  obtain ⟨p, q, hA0, hV, rfl, hfz, hnd⟩ := hW
  have hA : DataW.TrodAll enc Try.prog W 0 (fun _ => true) true Try.f5.params.toList args.toList ds p := hA0
  rw [Try.params5] at hA hval
  obtain ⟨v0, vs0, d0, ds0, p0, q0, hargs, rfl, rfl, h0, r0⟩ := trodAll_cons hA
  obtain ⟨rfl, rfl, rfl⟩ := trodAll_nil r0
  obtain rfl : args = #[v0] := by cases args; simp_all
  obtain ⟨rfl, rfl⟩ := trodVars_none hV
  obtain ⟨a0, len0, cap0, rfl⟩ := okWide_slice Try.underlying22 (hval 0 22 v0 rfl rfl)
  have k0 := h0
  have lt0 : ∀ x ∈ p0, x.block < W.heap.size := by obtain ⟨m, hm⟩ := k0; exact DataW.trod_lt m _ _ _ hm
  obtain ⟨z0, w0⟩ : ∃ zs, IsRow .u8 W a0 len0 cap0 zs := by
    obtain ⟨fuel, hf⟩ := h0
    rcases open_ints Try.underlying22 Try.underlying5 (by kernel_rfl) hf with ⟨hcs, _⟩ | ⟨x, l, c, zs, hcs, _, hl, hm, hz, _, hcell, hwz⟩
    · simp [Value.cells] at hcs
      obtain ⟨rfl, rfl, rfl⟩ := hcs
      exact ⟨[], .inl ⟨rfl, rfl, rfl, rfl⟩⟩
    · simp [Value.cells] at hcs
      obtain ⟨rfl, rfl, rfl⟩ := hcs
      exact ⟨zs, .inr ⟨_, rfl, hl, hm, by simpa using hz, hcell, hwz⟩⟩
  clear hA0 hval0
  refine (walk _ _ W (RdBytes.of_row w0)).mono fun e W' ⟨he, bel⟩ => ?_
  subst he
  exact ⟨_, rfl, _, _, _, [], _, [], hW', trodAll_mk1 (shut_bool Try.underlying4 _), (trodAll_cons_mk (Below.trod Try.laidOut (by kernel_rfl) (of_decide_eq_true (by kernel_rfl)) k0 bel lt0) trodAll_mk0), rfl, bel.frame _, fun h => by cases h⟩

theorem closed : joinedFacts Try.pinned.checked.prog 5 Try.f5 Rows.fnFaultSetsSpec Rows.fnFaultSetsRow = true := by
  unfold joinedFacts
  exact (and_tt (and_tt (and_tt (and_tt (and_tt (and_tt (and_tt (and_tt (and_tt (and_tt (and_tt (and_tt (and_tt (and_tt (and_tt (and_tt (and_tt (and_tt (and_tt (and_tt (and_tt (and_tt (and_tt (and_tt (and_tt (and_tt (and_tt (and_tt (and_tt (and_tt (and_tt (by kernel_rfl) (by kernel_rfl)) (by kernel_rfl)) (by kernel_rfl)) (by kernel_rfl)) (by kernel_rfl)) (by kernel_rfl)) (by kernel_rfl)) (by kernel_rfl)) (by kernel_rfl)) (by kernel_rfl)) (by kernel_rfl)) (by kernel_rfl)) (by kernel_rfl)) (by kernel_rfl)) (by kernel_rfl)) (by kernel_rfl)) (by kernel_rfl)) (by kernel_rfl)) (by kernel_rfl)) (by kernel_rfl)) (by kernel_rfl)) (by kernel_rfl)) (by kernel_rfl)) (by kernel_rfl)) Try.mayEnter0) (lifted_tt Try.lifts0 rfl)) (make_tt Try.make0 rfl)) (by kernel_rfl)) (by kernel_rfl)) (by kernel_rfl)) (by kernel_rfl))
theorem over : Rows.fnFaultSetsRow.holds Try.pinned (OpenSpec.ofChange Rows.fnFaultSetsSpec) :=
  OpenClaim.holds_of_wide 5 Try.f5 rfl rfl rfl rfl rfl rfl rfl ⟨rfl, rfl, rfl, rfl, rfl⟩ rfl rfl rfl rfl rfl (by kernel_rfl) Try.func5 closed
    (of_decide_eq_true (by kernel_rfl)) (by unfold Func.isWrapper; first | (rw [if_pos (by decide +kernel)]; kernel_rfl) | (rw [if_neg (by decide +kernel)]; exact ⟨rfl, rfl⟩))
    (fun os started H enc _ => lifted os started H enc)

theorem proved : Rows.FnFaultSetsSaid := over
end Go.Proofs.Ytnkgbolgcmjadaa.fnFaultSets

