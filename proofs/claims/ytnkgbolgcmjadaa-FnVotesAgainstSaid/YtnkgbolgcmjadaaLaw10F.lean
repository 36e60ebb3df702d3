/- A law of stage 10: votes of the right ones decide. It answers true, whatever the code. No condition. -/
import Derived.Test.YtnkgbolgcmjadaaDrawY
import Derived.Test.YtnkgbolgcmjadaaFaultI
import Derived.Test.YtnkgbolgcmjadaaFaultL
import Derived.Test.YtnkgbolgcmjadaaLawsA
import Derived.Deep.RegionHeld3
import Derived.Deep.Cut
import Derived.Test.YtnkgbolgcmjadaaRowsH
namespace Go.Proofs.Ytnkgbolgcmjadaa.fnVotesAgainst
open Go.ChangeShapes Go.WideShapes Go.ChangeAt Go.RowKit Go.Joins
attribute [local irreducible] synOk rowOk entOk fitsN fitsK toldE bitI fitsV setsN setsF votesF votesN heads madeE madeRow madeL madeV madeOk sureN onlyFN onlyFOk nums
open Go.ChangeMaps (open_string shut_string)
set_option linter.unusedVariables false
set_option maxRecDepth 100000 in
set_option maxHeartbeats 8000000 in
theorem walk (a0 : Value) (n0 : Nat) (w : World) (w0 : RdBytes w w.heap.size a0 n0) :
    Calls Try.prog 8 #[a0] w fun e w' => e = .returned (.bool true) ∧ Below w.heap.size w w' := by
  have hr := w0
  by_cases hbig : n0 ≤ 1048576
  case neg =>
    obtain ⟨ao, cap, rfl, hl, hm, hc⟩ := w0
    have hbig' := code_big hbig
    unfold maxLen at hm
    clear hc hr hbig
    go_enter Try.func8, Try.ntmps8
    go_wp2
    go_ret
    exact ⟨rfl, Below.refl _ _⟩
  have hbig' : (n0 : Int) ≤ 1048576 := by omega
  clear hbig
  obtain ⟨ao, cap, rfl, hl, hm, hc⟩ := w0
  have Hr := Lib.hid hr
  clear hc hr hl hm
  go_enter Try.func8, Try.ntmps8
  go_wp2_with fail
  refine (drawVotesAgainst _ _ _ Hr.out).mono ?_
  rintro e w1 ⟨v, rs, x, rfl, hri, hsp, hx0, hx1, hB1⟩
  obtain ⟨so, sc, rfl⟩ := own_len9 hri.1
  have HR1 := Lib.hid hri.rd
  have HB1 := Lib.hid hB1
  have hrl := drewS_small hsp
  clear hri hB1
  have hlen : (rs.map (·.2)).length = rs.length := by simp
  have Hiv := Lib.hid (fun w h h2 => implVotesAgainst rs x w.heap.size (.slice so rs.length sc) w h h2)
  have Hsv := Lib.hid (fun B w h => specVotesAgainst rs x B (.slice so rs.length sc) w h)
  have Hio := Lib.hid (fun w h h2 => implOnlyFaults rs w.heap.size (.slice so rs.length sc) w h h2)
  by_cases hneg : votesN (rs.map (·.2)) x < 0
  · have hm1 := votes_range hneg
    rw [hm1] at Hiv Hsv
    clear hm1 hneg hlen
    go_wp2_with fail
    refine (Hiv.out _ HR1.out (Nat.le_refl _)).mono ?_
    rintro e w2 ⟨rfl, hb2⟩
    have HR2 := Lib.hid (HR1.out.kept hb2)
    have HB2 := Lib.hid (HB1.out.trans (hb2.mono HB1.out.size))
    clear hb2
    go_wp2_with fail
    refine (Hsv.out _ _ HR2.out).mono ?_
    rintro e w' ⟨rfl, rfl⟩
    go_wp2_with fail
    refine (alive _).mono ?_
    rintro e w' ⟨rfl, rfl⟩
    go_wp2
    go_ret
    exact ⟨rfl, HB2.out⟩
  · obtain ⟨hs, U, rfl, hU, hv⟩ := votes_yes hneg
    have hfew := votes_few hs hU
    have hge : 0 ≤ votesN (rs.map (·.2)) (U : Int) := by omega
    rw [hv] at hge
    rw [hv] at Hiv Hsv
    rw [hlen] at hU hfew hge Hiv Hsv
    have Hvi := Lib.hid (fun X h1 h2 h3 => votes_in (X := X) hs (show (rs.map (·.2)).length ≤ 32 by omega) h1 h2 (by rw [hlen]; exact hU) h3)
    have Hvo := Lib.hid (fun X h1 h2 h3 => votes_out (X := X) hs (show (rs.map (·.2)).length ≤ 32 by omega) h1 h2 (by rw [hlen]; exact hU) h3)
    have Hno := Lib.hid (fun h => only_no (s := rs.map (·.2)) h)
    have Hset := Lib.hid (fun h => only_set (s := rs.map (·.2)) h)
    rw [hlen] at Hvi Hvo Hset
    clear hneg hv hs hlen
    have h32 : 2 ^ rs.length ≤ 32 := two32 hrl
    generalize votesF (rs.map (·.2)) U rs.length = V at *
    generalize rs.map (·.2) = s at *
    go_wp2_with fail
    refine (Hiv.out _ HR1.out (Nat.le_refl _)).mono ?_
    rintro e w2 ⟨rfl, hb2⟩
    have HR2 := Lib.hid (HR1.out.kept hb2)
    have HB2 := Lib.hid (HB1.out.trans (hb2.mono HB1.out.size))
    clear hb2
    go_wp2_with fail
    refine (Hsv.out _ _ HR2.out).mono ?_
    rintro e w' ⟨rfl, rfl⟩
    have hVn : ¬ (V < 0) := by omega
    cases hfo : onlyFOk s with
    | false =>
      have h1 := (Hno.out hfo).1
      rw [h1, hfo] at Hio
      clear h1 hfo Hvi Hvo Hset h32
      go_wp2_with fail
      refine (Hio.out _ HR2.out (Nat.le_refl _)).mono ?_
      rintro e w3 ⟨rfl, hb3⟩
      have HR3 := Lib.hid (HR2.out.kept hb3)
      have HB3 := Lib.hid (HB2.out.trans (hb3.mono HB2.out.size))
      clear hb3
      go_wp2_with fail
      refine (alive _).mono ?_
      rintro e w' ⟨rfl, rfl⟩
      go_wp2
      go_ret
      exact ⟨rfl, HB3.out⟩
    | true =>
      obtain ⟨_, X, _, h2, h3, _, h5⟩ := Hset.out hfo
      rw [h2, hfo] at Hio
      have hX : X < 32 := by omega
      have hsh := bit_mod9 X U
      have hmn : min U 64 = U := by omega
      cases hb : X.testBit U with
      | true =>
        have hle := Hvi.out X h3 h5 hb
        rw [bitI_yes hb] at hsh
        clear hfo h2 h3 h5 hb Hvi Hvo Hno Hset h32
        have Hh := Lib.hid (fun w => lawHeads X (by omega) w)
        have hh := heads_le X
        generalize heads X = hd at *
        go_wp2_with fail
        refine (Hio.out _ HR2.out (Nat.le_refl _)).mono ?_
        rintro e w3 ⟨rfl, hb3⟩
        have HR3 := Lib.hid (HR2.out.kept hb3)
        have HB3 := Lib.hid (HB2.out.trans (hb3.mono HB2.out.size))
        clear hb3
        go_wp2_with fail
        refine (Hh.out _).mono ?_
        rintro e w' ⟨rfl, rfl⟩
        go_wp2
        go_ret
        exact ⟨rfl, HB3.out⟩
      | false =>
        have hle := Hvo.out X h3 h5 hb
        rw [bitI_no hb] at hsh
        clear hfo h2 h3 h5 hb Hvi Hvo Hno Hset h32
        have Hh := Lib.hid (fun w => lawHeads X (by omega) w)
        generalize heads X = hd at *
        go_wp2_with fail
        refine (Hio.out _ HR2.out (Nat.le_refl _)).mono ?_
        rintro e w3 ⟨rfl, hb3⟩
        have HR3 := Lib.hid (HR2.out.kept hb3)
        have HB3 := Lib.hid (HB2.out.trans (hb3.mono HB2.out.size))
        clear hb3
        go_wp2_with fail
        refine (Hh.out _).mono ?_
        rintro e w' ⟨rfl, rfl⟩
        go_wp2
        go_ret
        exact ⟨rfl, HB3.out⟩

set_option maxRecDepth 100000 in
theorem lifted (os : Os) (started : os.Started) (H : Type) (enc : TypeId × Value → H) :
    ReturnsInHanded {} Try.checked os 8 .any (Rows.fnVotesAgainstSpec.pre6 enc Try.prog Try.f8 Rows.fnVotesAgainstRow.domain false) (Rows.fnVotesAgainstSpec.post enc Try.prog Try.f8 false true false false) := by
  refine returnsInHanded_of_change (C := Try.checked) Try.own started (by kernel_rfl) Try.func8
    (ChangeSpec.witness6 (enc := enc) (C := Try.checked) false ⟨#[], #[.slice none 0 0], []⟩ 8 (by kernel_rfl) (by kernel_rfl) (by kernel_rfl) (by kernel_rfl)) ?_
  intro W base args ds gs before hval0 hW hcnd _
  have hval : ∀ (j : Nat) t v, Try.f8.params[j]? = some t → args[j]? = some v → Value.okWide Try.prog W .any base t v := hval0
  have hW' := hW
  obtain ⟨p, q, hA0, hV, rfl, hfz, hnd⟩ := hW
  have hA : DataW.TrodAll enc Try.prog W 0 (fun _ => true) true Try.f8.params.toList args.toList ds p := hA0
  rw [Try.params8] at hA hval
  obtain ⟨v0, vs0, d0, ds0, p0, q0, hargs, rfl, rfl, h0, r0⟩ := trodAll_cons hA
  obtain ⟨rfl, rfl, rfl⟩ := trodAll_nil r0
  obtain rfl : args = #[v0] := by cases args; simp_all
  obtain ⟨rfl, rfl⟩ := trodVars_none hV
  obtain ⟨a0, len0, cap0, rfl⟩ := okWide_slice Try.underlying22 (hval 0 22 v0 rfl rfl)
  have k0 := h0
  have lt0 : ∀ x ∈ p0, x.block < W.heap.size := by obtain ⟨m, hm⟩ := k0; exact DataW.trod_lt m _ _ _ hm
  obtain ⟨z0, w0⟩ : ∃ zs, IsRow .u8 W a0 len0 cap0 zs := by
    obtain ⟨fuel, hf⟩ := h0
    rcases open_ints Try.underlying22 Try.underlying5 (by kernel_rfl) hf with ⟨hcs, _⟩ | ⟨x, l, c, zs, hcs, _, hl, hm, hz, _, hcell, hwz⟩
    · simp [Value.cells] at hcs
      obtain ⟨rfl, rfl, rfl⟩ := hcs
      exact ⟨[], .inl ⟨rfl, rfl, rfl, rfl⟩⟩
    · simp [Value.cells] at hcs
      obtain ⟨rfl, rfl, rfl⟩ := hcs
      exact ⟨zs, .inr ⟨_, rfl, hl, hm, by simpa using hz, hcell, hwz⟩⟩
  clear hA0 hval0
  refine (walk _ _ W (RdBytes.of_row w0)).mono fun e W' ⟨he, bel⟩ => ?_
  subst he
  exact ⟨_, rfl, _, _, _, [], _, [], hW', trodAll_mk1 (shut_bool Try.underlying4 _), (trodAll_cons_mk (Below.trod Try.laidOut (by kernel_rfl) (of_decide_eq_true (by kernel_rfl)) k0 bel lt0) trodAll_mk0), rfl, bel.frame _, fun h => by cases h⟩

theorem closed : joinedFacts Try.pinned.checked.prog 8 Try.f8 Rows.fnVotesAgainstSpec Rows.fnVotesAgainstRow = true := by
  unfold joinedFacts
  exact (and_tt (and_tt (and_tt (and_tt (and_tt (and_tt (and_tt (and_tt (and_tt (and_tt (and_tt (and_tt (and_tt (and_tt (and_tt (and_tt (and_tt (and_tt (and_tt (and_tt (and_tt (and_tt (and_tt (and_tt (and_tt (and_tt (and_tt (and_tt (and_tt (and_tt (and_tt (by kernel_rfl) (by kernel_rfl)) (by kernel_rfl)) (by kernel_rfl)) (by kernel_rfl)) (by kernel_rfl)) (by kernel_rfl)) (by kernel_rfl)) (by kernel_rfl)) (by kernel_rfl)) (by kernel_rfl)) (by kernel_rfl)) (by kernel_rfl)) (by kernel_rfl)) (by kernel_rfl)) (by kernel_rfl)) (by kernel_rfl)) (by kernel_rfl)) (by kernel_rfl)) (by kernel_rfl)) (by kernel_rfl)) (by kernel_rfl)) (by kernel_rfl)) (by kernel_rfl)) (by kernel_rfl)) Try.mayEnter0) (lifted_tt Try.lifts0 rfl)) (make_tt Try.make0 rfl)) (by kernel_rfl)) (by kernel_rfl)) (by kernel_rfl)) (by kernel_rfl))
theorem over : Rows.fnVotesAgainstRow.holds Try.pinned (OpenSpec.ofChange Rows.fnVotesAgainstSpec) :=
  OpenClaim.holds_of_wide 8 Try.f8 rfl rfl rfl rfl rfl rfl rfl ⟨rfl, rfl, rfl, rfl, rfl⟩ rfl rfl rfl rfl rfl (by kernel_rfl) Try.func8 closed
    (of_decide_eq_true (by kernel_rfl)) (by unfold Func.isWrapper; first | (rw [if_pos (by decide +kernel)]; kernel_rfl) | (rw [if_neg (by decide +kernel)]; exact ⟨rfl, rfl⟩))
    (fun os started H enc _ => lifted os started H enc)

theorem proved : Rows.FnVotesAgainstSaid := over
end Go.Proofs.Ytnkgbolgcmjadaa.fnVotesAgainst

