/- A law of stage 3: mirrored terms have opposite tables. It answers true, whatever the code. No condition. -/
import Derived.Test.YtiakelhpmiffdaaDrawH
import Derived.Test.YtiakelhpmiffdaaMirrorS
import Derived.Test.YtiakelhpmiffdaaTruthI
import Derived.Test.YtiakelhpmiffdaaLawsA
import Derived.Deep.RegionHeld3
import Derived.Test.YtiakelhpmiffdaaMirror
import Derived.Test.YtiakelhpmiffdaaHelpers
namespace Go.Proofs.Ytiakelhpmiffdaa
open Go.RowKit
theorem table_facts {p : Int} {ms : List (Int × Int)} (h : termOk p ms = true) : ∃ P T N : Nat, p = (P : Int) ∧ 1 ≤ P ∧ P ≤ 4 ∧ N = 2 ^ P ∧ N ≤ 16 ∧ tabV p ms = (T : Int) ∧ tOk p (T : Int) = true ∧ ∀ k, k < N → decide ((k : Int) ∈ nums (wlp p (T : Int))) = holdsV p ms k := by
  obtain ⟨h1, h4⟩ := p_of h
  have hok := tabV_ok h
  obtain ⟨P, rfl⟩ := Int.eq_ofNat_of_zero_le (show 0 ≤ p by omega)
  refine ⟨P, tabN P ms, 2 ^ P, rfl, by omega, by omega, rfl, two16 (by omega), tabV_N h, by rw [← tabV_N h]; exact hok, fun k hk => ?_⟩
  rw [tabV_N h] at hok
  have h2 := tab_holds h (w := k) (by rw [Int.toNat_natCast]; exact hk)
  rw [← h2, tabV_N h, Int.toNat_natCast, wlp_yes hok, Int.toNat_natCast, Int.toNat_natCast, Bool.eq_iff_iff, decide_eq_true_eq]
  unfold nums
  rw [List.mem_map]
  constructor
  · rintro ⟨i, hi, he⟩
    obtain rfl : i = k := by omega
    exact (wl_mem.1 hi).2
  · intro hb
    exact ⟨k, wl_mem.2 ⟨hk, hb⟩, rfl⟩
end Go.Proofs.Ytiakelhpmiffdaa
namespace Go.Proofs.Ytiakelhpmiffdaa.fnTableOf
open Go.ChangeShapes Go.WideShapes Go.ChangeAt Go.RowKit Go.Joins
attribute [local irreducible] holds tabN tabV holdsV sameV followsV alwaysV matterV mirV mirOk mcells tmOf
open Go.ChangeMaps (open_string shut_string)
set_option linter.unusedVariables false
set_option maxRecDepth 100000 in
set_option maxHeartbeats 4000000 in
theorem walk (a0 : Value) (n0 : Nat) (w : World) (w0 : RdBytes w w.heap.size a0 n0) :
    Calls Try.prog 4 #[a0] w fun e w' => e = .returned (.bool true) ∧ Below w.heap.size w w' := by
  have hr := w0
  by_cases hbig : n0 ≤ 1048576
  case neg =>
    obtain ⟨ao, cap, rfl, hl, hm, hc⟩ := w0
    have hbig' := code_big hbig
    unfold maxLen at hm
    clear hc hr hbig
    go_enter Try.func4, Try.ntmps4
    go_wp2
    go_ret
    exact ⟨rfl, Below.refl _ _⟩
  have hbig' : (n0 : Int) ≤ 1048576 := by omega
  clear hbig
  obtain ⟨ao, cap, rfl, hl, hm, hc⟩ := w0
  have Hr := Lib.hid hr
  clear hc hr hl hm
  go_enter Try.func4, Try.ntmps4
  go_wp2_with fail
  refine (drawTableOf _ _ _ Hr.out).mono ?_
  rintro e w1 ⟨p, g, n, cp, ms, hp1, hp8, rfl, hlen, hown, hi, hn, hB⟩
  have Hlen := Lib.hid hlen; clear hlen
  have Hi := Lib.hid hi; clear hi
  have hrd : RdMarks w1 w1.heap.size (.slice (some ⟨g, 0, none⟩) n cp) ms := by
    have h0 := RdMarks.of_own (ms := ms) (v := .slice (some ⟨g, 0, none⟩) n cp) (e := TM) (base := w.heap.size) (by rw [Hlen.out]; exact hown) Hi.out
    exact h0
  clear hown
  have Hrd1 := Lib.hid hrd; clear hrd
  have hB1 := hB; clear hB
  go_wp2_with fail
  refine (implTableOf _ ms _ _ _ Hrd1.out (Nat.le_refl _)).mono ?_
  rintro e w2 ⟨rfl, hb2⟩
  have Hrd2 := Lib.hid (Hrd1.out.kept hb2)
  have hB2 : Below w.heap.size w w2 := hB1.trans (hb2.mono hB1.size)
  clear hb2 Hrd1
  cases hok : termOk p ms with
  | false =>
    have Hok := Lib.hid hok; clear hok
    rw [tabV_no Hok.out]
    go_wp2_with fail
    refine (specTableOf _ ms _ _ _ Hrd2.out (Nat.le_refl _)).mono ?_
    rintro e w3 ⟨rfl, hb3⟩
    rw [tabV_no Hok.out]
    have Hrd3 := Lib.hid (Hrd2.out.kept hb3)
    have hB3 : Below w.heap.size w w3 := hB2.trans (hb3.mono hB2.size)
    clear hb3
    go_wp2_with fail
    refine (implTermOk _ ms _ _ _ Hrd3.out (Nat.le_refl _)).mono ?_
    rintro e w4 ⟨rfl, hb4⟩
    have hB4 : Below w.heap.size w w4 := hB3.trans (hb4.mono hB3.size)
    rw [Hok.out]
    clear hb4
    go_wp2_with fail
    refine (alive _).mono ?_
    rintro e w' ⟨rfl, rfl⟩
    go_wp2
    go_ret
    exact ⟨rfl, hB4⟩
  | true =>
    obtain ⟨P, T, N, rfl, hP1, hP4, hN, hN16, hT, htok, hmem⟩ := table_facts hok
    have hmi : mirOk (P : Int) ms = true → tabV (P : Int) (mirV (P : Int) ms) = opt (P : Int) (tabV (P : Int) ms) := tabV_mir
    have hsp := fun (B : Nat) (v : Value) (W : World) h h2 => specTableOf (P : Int) ms B v W h h2
    have hxi := mirV_I64 (P : Int) ms
    have hmm := fun (B : Nat) (v : Value) (W : World) h h2 => implTableOf (P : Int) (mirV (P : Int) ms) B v W h h2
    have hmt := fun (B : Nat) (v : Value) (W : World) h h2 => implMirrorTerm (P : Int) ms B v W h h2
    have hot := fun (W : World) => implOppositeTable (P : Int) (T : Int) W
    have hwi := fun (W : World) => implWorldsIn (P : Int) (T : Int) W
    have hho := fun (k : Nat) (B : Nat) (v : Value) (W : World) h h2 => implHoldsIn (P : Int) ms k B v W h h2
    unfold MirOut at hmt
    rw [hT] at hmi hsp ⊢
    have hsh : wrap64 (2 ^ P) = (N : Int) := by
      rcases p_cases (p := (P : Int)) (by omega) (by omega) with h | h | h | h <;> (obtain rfl : P = _ := Int.ofNat.inj h) <;> (rw [hN]; decide +kernel)
    clear hT hok hN
    generalize mirV (P : Int) ms = xs at *
    generalize mirOk (P : Int) ms = mo at *
    generalize tabV (P : Int) xs = TX at *
    generalize opt (P : Int) (T : Int) = TO at *
    generalize wlp (P : Int) (T : Int) = ls at *
    have Hmem := Lib.hid hmem; clear hmem
    have Hmi := Lib.hid hmi; clear hmi
    have Hsp := Lib.hid hsp; clear hsp
    have Hmm := Lib.hid hmm; clear hmm
    have Hmt := Lib.hid hmt; clear hmt
    have Hot := Lib.hid hot; clear hot
    have Hwi := Lib.hid hwi; clear hwi
    have Hho := Lib.hid hho; clear hho
    have Hxi := Lib.hid hxi; clear hxi
    have Htok := Lib.hid htok; clear htok
    have hT0 : ¬ (T : Int) < 0 := by omega
    go_wp2_with fail
    refine (Hsp.out _ _ _ Hrd2.out (Nat.le_refl _)).mono ?_
    rintro e w3 ⟨rfl, hb3⟩
    have Hrd3 := Lib.hid (Hrd2.out.kept hb3)
    have hB3 : Below w.heap.size w w3 := hB2.trans (hb3.mono hB2.size)
    clear hb3 Hrd2
    go_wp2_with fail
    refine (Hwi.out _).mono ?_
    rintro e w4 ⟨vl, rfl, hownl, hb4⟩
    have Hrd4 := Lib.hid (Hrd3.out.kept hb4)
    have hB4 : Below w.heap.size w w4 := hB3.trans (hb4.mono hB3.size)
    have Hl4 : Hid (RdInts w4 w4.heap.size vl (nums ls)) := RdInts.of_own (zs := nums ls) (by rw [nums_length, ← vals_nums]; exact hownl)
    clear hb4 Hrd3 hownl
    go_wp2_with fail
    go_loopw [7] (fun i wr => ∃ k : Nat, k ≤ N ∧ i = .int .i64 k ∧ Below w4.heap.size w4 wr) (fun i _ => N - (intOf i).toNat)
    case atStart => exact ⟨0, Nat.zero_le _, rfl, Below.refl _ _⟩
    case round =>
      obtain ⟨k, hk, rfl, hbr⟩ := hrel
      have Hrdr := Lib.hid (Hrd4.out.kept hbr)
      have Hlr := Lib.hid (Hl4.out.below (w' := wr) hbr.block)
      have hBr : Below w.heap.size w wr := hB4.trans (hbr.mono hB4.size)
      have hsr := hbr.size
      have Hbr := Lib.hid hbr
      clear hbr
      by_cases hlt : k < N
      · have hm := Hmem.out k hlt
        have Hh := Lib.hid (Hho.out k)
        generalize holdsV (P : Int) ms k = hv at *
        have Hm := Lib.hid hm; clear hm
        go_wp2_with fail
        refine (Hh.out _ _ _ Hrdr.out (Nat.le_refl _)).mono ?_
        rintro e w5 ⟨rfl, hb5⟩
        have Hl5 := Lib.hid (Hlr.out.below (w' := w5) (fun q hq => hb5.block q (by omega)))
        have Hb5 := Lib.hid (Hbr.out.trans (hb5.mono hsr))
        clear hb5
        go_wp2_with fail
        refine (hasInt (nums ls) k _ _ _ Hl5.out).mono ?_
        rintro e w' ⟨rfl, rfl⟩
        rw [Hm.out]
        cases hv
        all_goals
          go_wp2
          go_roundw
          case rel => exact ⟨k + 1, by omega, by go_num, Hb5.out⟩
          case measure => simp [intOf]; omega
      · obtain rfl : k = N := by omega
        go_wp2_with fail
        refine (Hmt.out _ _ _ Hrdr.out (Nat.le_refl _)).mono ?_
        rintro e w5 ⟨vx, rfl, hown5, hb5⟩
        have Hown5 := Lib.hid hown5
        have hB5 : Below w.heap.size w w5 := hBr.trans (hb5.mono hBr.size)
        clear hb5 hown5
        go_wp2_with fail
        refine (implTableOk _ _ _).mono ?_
        rintro e w' ⟨rfl, rfl⟩
        rw [Htok.out]
        cases mo with
        | false =>
          go_wp2
          go_ret
          exact ⟨rfl, hB5⟩
        | true =>
          have hTX : TX = TO := Hmi.out (by first | rfl | trivial | simp)
          subst hTX
          go_wp2_with fail
          refine (Hmm.out _ _ _ (RdMarks.of_own Hown5.out Hxi.out) (Nat.le_refl _)).mono ?_
          rintro e w6 ⟨rfl, hb6⟩
          have hB6 : Below w.heap.size w w6 := hB5.trans (hb6.mono hB5.size)
          clear hb6
          go_wp2_with fail
          refine (Hot.out _).mono ?_
          rintro e w7 ⟨rfl, hb7⟩
          have hB7 : Below w.heap.size w w7 := hB6.trans (hb7.mono hB6.size)
          clear hb7
          go_wp2
          go_ret
          exact ⟨rfl, hB7⟩

set_option maxRecDepth 100000 in
theorem lifted (os : Os) (started : os.Started) (H : Type) (enc : TypeId × Value → H) :
    ReturnsInHanded {} Try.checked os 4 .any (Rows.fnTableOfSpec.pre6 enc Try.prog Try.f4 Rows.fnTableOfRow.domain false) (Rows.fnTableOfSpec.post enc Try.prog Try.f4 false true false false) := by
  refine returnsInHanded_of_change (C := Try.checked) Try.own started (by kernel_rfl) Try.func4
    (ChangeSpec.witness6 (enc := enc) (C := Try.checked) false ⟨#[], #[.slice none 0 0], []⟩ 8 (by kernel_rfl) (by kernel_rfl) (by kernel_rfl) (by kernel_rfl)) ?_
  intro W base args ds gs before hval0 hW hcnd _
  have hval : ∀ (j : Nat) t v, Try.f4.params[j]? = some t → args[j]? = some v → Value.okWide Try.prog W .any base t v := hval0
  have hW' := hW
  obtain ⟨p, q, hA0, hV, rfl, hfz, hnd⟩ := hW
  have hA : DataW.TrodAll enc Try.prog W 0 (fun _ => true) true Try.f4.params.toList args.toList ds p := hA0
  rw [Try.params4] at hA hval
  obtain ⟨v0, vs0, d0, ds0, p0, q0, hargs, rfl, rfl, h0, r0⟩ := trodAll_cons hA
  obtain ⟨rfl, rfl, rfl⟩ := trodAll_nil r0
  obtain rfl : args = #[v0] := by cases args; simp_all
  obtain ⟨rfl, rfl⟩ := trodVars_none hV
  obtain ⟨a0, len0, cap0, rfl⟩ := okWide_slice Try.underlying22 (hval 0 22 v0 rfl rfl)
  have k0 := h0
  have lt0 : ∀ x ∈ p0, x.block < W.heap.size := by obtain ⟨m, hm⟩ := k0; exact DataW.trod_lt m _ _ _ hm
  obtain ⟨z0, w0⟩ : ∃ zs, IsRow .u8 W a0 len0 cap0 zs := by
    obtain ⟨fuel, hf⟩ := h0
    rcases open_ints Try.underlying22 Try.underlying5 (by kernel_rfl) hf with ⟨hcs, _⟩ | ⟨x, l, c, zs, hcs, _, hl, hm, hz, _, hcell, hwz⟩
    · simp [Value.cells] at hcs
      obtain ⟨rfl, rfl, rfl⟩ := hcs
      exact ⟨[], .inl ⟨rfl, rfl, rfl, rfl⟩⟩
    · simp [Value.cells] at hcs
      obtain ⟨rfl, rfl, rfl⟩ := hcs
      exact ⟨zs, .inr ⟨_, rfl, hl, hm, by simpa using hz, hcell, hwz⟩⟩
  clear hA0 hval0
  refine (walk _ _ W (RdBytes.of_row w0)).mono fun e W' ⟨he, bel⟩ => ?_
  subst he
  exact ⟨_, rfl, _, _, _, [], _, [], hW', trodAll_mk1 (shut_bool Try.underlying4 _), (trodAll_cons_mk (Below.trod Try.laidOut (by kernel_rfl) (of_decide_eq_true (by kernel_rfl)) k0 bel lt0) trodAll_mk0), rfl, bel.frame _, fun h => by cases h⟩

theorem closed : joinedFacts Try.pinned.checked.prog 4 Try.f4 Rows.fnTableOfSpec Rows.fnTableOfRow = true := by
  unfold joinedFacts
  exact (and_tt (and_tt (and_tt (and_tt (and_tt (and_tt (and_tt (and_tt (and_tt (and_tt (and_tt (and_tt (and_tt (and_tt (and_tt (and_tt (and_tt (and_tt (and_tt (and_tt (and_tt (and_tt (and_tt (and_tt (and_tt (and_tt (and_tt (and_tt (and_tt (and_tt (and_tt (by kernel_rfl) (by kernel_rfl)) (by kernel_rfl)) (by kernel_rfl)) (by kernel_rfl)) (by kernel_rfl)) (by kernel_rfl)) (by kernel_rfl)) (by kernel_rfl)) (by kernel_rfl)) (by kernel_rfl)) (by kernel_rfl)) (by kernel_rfl)) (by kernel_rfl)) (by kernel_rfl)) (by kernel_rfl)) (by kernel_rfl)) (by kernel_rfl)) (by kernel_rfl)) (by kernel_rfl)) (by kernel_rfl)) (by kernel_rfl)) (by kernel_rfl)) (by kernel_rfl)) (by kernel_rfl)) Try.mayEnter0) (lifted_tt Try.lifts0 rfl)) (make_tt Try.make0 rfl)) (by kernel_rfl)) (by kernel_rfl)) (by kernel_rfl)) (by kernel_rfl))
theorem over : Rows.fnTableOfRow.holds Try.pinned (OpenSpec.ofChange Rows.fnTableOfSpec) :=
  OpenClaim.holds_of_wide 4 Try.f4 rfl rfl rfl rfl rfl rfl rfl ⟨rfl, rfl, rfl, rfl, rfl⟩ rfl rfl rfl rfl rfl (by kernel_rfl) Try.func4 closed
    (of_decide_eq_true (by kernel_rfl)) (by unfold Func.isWrapper; first | (rw [if_pos (by decide +kernel)]; kernel_rfl) | (rw [if_neg (by decide +kernel)]; exact ⟨rfl, rfl⟩))
    (fun os started H enc _ => lifted os started H enc)

theorem proved : Rows.FnTableOfSaid := over
end Go.Proofs.Ytiakelhpmiffdaa.fnTableOf

