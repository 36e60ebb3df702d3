/- A law of stage 10: if all are broken, anything is told. It answers true, whatever the code. No condition. -/
import Derived.Test.YtnkgbolgcmjadaaDrawY
import Derived.Test.YtnkgbolgcmjadaaFaultI
import Derived.Test.YtnkgbolgcmjadaaFaultL
import Derived.Test.YtnkgbolgcmjadaaLawsA
import Derived.Deep.RegionHeld3
import Derived.Deep.Cut
namespace Go.Proofs.Ytnkgbolgcmjadaa.fnFitsFaults
open Go.ChangeShapes Go.WideShapes Go.ChangeAt Go.RowKit Go.Joins
attribute [local irreducible] synOk rowOk entOk fitsN fitsK toldE bitI fitsV setsN setsF votesF votesN heads madeE madeRow madeL madeV madeOk sureN onlyFN onlyFOk nums
open Go.ChangeMaps (open_string shut_string)
set_option linter.unusedVariables false
set_option maxRecDepth 100000 in
set_option maxHeartbeats 8000000 in
theorem walk (a0 : Value) (n0 : Nat) (w : World) (w0 : RdBytes w w.heap.size a0 n0) :
    Calls Try.prog 4 #[a0] w fun e w' => e = .returned (.bool true) ∧ Below w.heap.size w w' := by
  have hr := w0
  by_cases hbig : n0 ≤ 1048576
  case neg =>
    obtain ⟨ao, cap, rfl, hl, hm, hc⟩ := w0
    have hbig' := code_big hbig
    unfold maxLen at hm
    clear hc hr hbig
    go_enter Try.func4, Try.ntmps4
    go_wp2
    go_ret
    exact ⟨rfl, Below.refl _ _⟩
  have hbig' : (n0 : Int) ≤ 1048576 := by omega
  clear hbig
  obtain ⟨ao, cap, rfl, hl, hm, hc⟩ := w0
  have Hr := Lib.hid hr
  clear hc hr hl hm
  go_enter Try.func4, Try.ntmps4
  go_wp2_with fail
  refine (drawFitsFaults _ _ _ Hr.out).mono ?_
  rintro e w1 ⟨v, rs, x, rfl, hri, hsp, hx0, hx1, hB1⟩
  obtain ⟨so, sc, rfl⟩ := own_len9 hri.1
  have HR1 := Lib.hid hri.rd
  have HB1 := Lib.hid hB1
  have hrl := drewS_small hsp
  clear hri hB1
  have Hf0 := Lib.hid (fun h => fitsV_no (s := rs.map (·.2)) (x := x) h)
  have Hif := Lib.hid (fun x w h h2 => implFitsFaults rs x w.heap.size (.slice so rs.length sc) w h h2)
  go_wp2_with fail
  refine (Hif.out x _ HR1.out (Nat.le_refl _)).mono ?_
  rintro e w2 ⟨rfl, hb2⟩
  have HR2 := Lib.hid (HR1.out.kept hb2)
  have HB2 := Lib.hid (HB1.out.trans (hb2.mono HB1.out.size))
  clear hb2
  go_wp2_with fail
  refine (specFitsFaults rs x _ _ _ HR2.out).mono ?_
  rintro e w3 ⟨rfl, nd3, hnd3⟩
  have hb3 : Below w2.heap.size w2 w3 := by rw [← hnd3]; exact below_drewN9 (Below.refl _ _) _
  clear hnd3
  have HR3 := Lib.hid (HR2.out.kept hb3)
  have HB3 := Lib.hid (HB2.out.trans (hb3.mono HB2.out.size))
  clear hb3
  cases hs : synOk (rs.map (·.2)) with
  | false =>
    have Hf := Lib.hid (Hf0.out hs)
    have Hso := Lib.hid (fun B v w h => specSyndromeOk rs B v w h)
    rw [hs] at Hso
    have hfv : fitsV (rs.map (·.2)) x = false := Hf.out
    rw [hfv]
    clear hs hfv Hf Hf0
    go_wp2_with fail
    refine (Hso.out _ _ _ HR3.out).mono ?_
    rintro e w' ⟨rfl, rfl⟩
    go_wp2_with fail
    refine (alive _).mono ?_
    rintro e w' ⟨rfl, rfl⟩
    go_wp2
    go_ret
    exact ⟨rfl, HB3.out⟩
  | true =>
    obtain ⟨hn5, hn1, _⟩ := syn_rows hs
    have hlen : (rs.map (·.2)).length = rs.length := by simp
    obtain ⟨N, hN⟩ : ∃ N, N = 2 ^ rs.length := ⟨_, rfl⟩
    have hN32 : N ≤ 32 := by rw [hN]; exact two32 hn5
    have hN2 : 2 ≤ N := by rw [hN]; exact (Nat.pow_le_pow_right (by decide) hn1 : 2 ^ 1 ≤ 2 ^ rs.length)
    have hsh := shl_5 hn5 hN
    have hshk := shl_5k hn5 hN
    have hmn : min rs.length 64 = rs.length := by omega
    have Ha : Hid (fitsV (rs.map (·.2)) ((N : Int) - 1) = true) := by
      have h := fits_every (s := rs.map (·.2))
      rw [hlen, ← hN] at h
      have := fitsV_in hs (X := N - 1) (by rw [hlen, ← hN]; omega)
      rw [h, show ((N - 1 : Nat) : Int) = (N : Int) - 1 by omega] at this
      exact this
    have Hb : Hid (fitsV (rs.map (·.2)) ((N : Int) - 1 - 1) = true ↔ ∀ j, 1 ≤ j → j < rs.length → toldE (rs.map (·.2)) 0 j = 1) := by
      have h := fits_but (s := rs.map (·.2)) (by rw [hlen]; exact hn1) (by rw [hlen]; exact hn5)
      rw [hlen, ← hN] at h
      have := fitsV_in hs (X := N - 2) (by rw [hlen, ← hN]; omega)
      rw [show ((N - 2 : Nat) : Int) = (N : Int) - 1 - 1 by omega] at this
      unfold Hid; rw [this]; exact h
    have Hc : Hid (fitsV (rs.map (·.2)) ((N : Int) - 1 + 1) = false) := fitsV_out (by rw [hlen]; intro h; have h2 := h.2; have e : ((2 : Int) ^ rs.length) = (N : Int) := (by rw [hN]; simp); omega)
    have Hso := Lib.hid (fun B v w h => specSyndromeOk rs B v w h)
    rw [hs] at Hso
    have Hif9 := Lib.hid (fun x w (h : RdRows w w.heap.size (.slice so rs.length sc) rs) => implFitsFaults rs x w.heap.size (.slice so rs.length sc) w h (Nat.le_refl _))
    have Htold := Lib.hid (told_rows rs)
    have hl0 : (rs.getD 0 rw0).2.length = rs.length := (syn_rows hs).2.2 0 (by omega)
    generalize fitsV (rs.map (·.2)) x = o at *
    clear hs Hf0 hN
    go_wp2_with fail
    refine (Hso.out _ _ _ HR3.out).mono ?_
    rintro e w' ⟨rfl, rfl⟩
    have hr0 := HR3.out.get (j := 0) (by omega)
    obtain ⟨sa, scc, hsv, hsl, hsm, _, hsc⟩ := HR3.out
    obtain ⟨bs, os, hso', _, hc0⟩ := hsc 0 (by omega)
    obtain ⟨rfl, rfl⟩ : so = sa ∧ sc = scc := by simpa using hsv
    subst hso'
    have htk := Htold.out 0
    generalize rs.getD 0 rw0 = q at *
    obtain ⟨u, zs⟩ := q
    dsimp only at hr0 hc0 hl0 htk
    obtain ⟨ua, uc, hu, hul, hum, hucell⟩ := hr0
    subst hu
    rw [hl0] at hul hucell hc0
    have Huc := Lib.hid hucell
    have Htk := Lib.hid htk
    rw [Nat.add_zero] at hc0
    unfold maxLen at hsm hum
    clear hucell hsc htk hsv Htold hl0
    generalize rs.map (·.2) = s at *
    obtain ⟨wo, rfl⟩ : ∃ wo : World, wo = w3 := ⟨_, rfl⟩
    go_wp2
    clear hsh hshk hmn
    go_loop [7, 8] (fun t i => ∃ (j : Nat) (d : Bool), 1 ≤ j ∧ j ≤ rs.length ∧ i = .int .i64 j ∧ t = .bool d ∧ Hid (d = true ↔ ∀ m, 1 ≤ m → m < j → toldE s 0 m = 1)) (fun _ i => rs.length - (intOf i).toNat)
    case atStart => exact ⟨1, true, Nat.le_refl _, hn1, rfl, rfl, ⟨fun _ m h1 h2 => by omega, fun _ => rfl⟩⟩
    case round =>
      obtain ⟨j, d, hj1, hj, rfl, rfl, hd⟩ := hrel
      by_cases hlt : j < rs.length
      · obtain ⟨b2, off2, rfl, _, hc2⟩ := Huc.out j hlt
        have htj := Htk.out j
        rw [← htj] at hc2
        clear htj
        cases d with
        | false =>
          have Hd : Hid (false = true ↔ ∀ m, 1 ≤ m → m < j + 1 → toldE s 0 m = 1) := ⟨fun h => by simp at h, fun h => by have := hd.out.2 (fun m h1 h2 => h m h1 (by omega)); simp at this⟩
          clear hd
          go_wp2
          go_round
          case rel => exact ⟨j + 1, false, by omega, by omega, by go_num, rfl, Hd.out⟩
          case measure => simp [intOf]; omega
        | true =>
          have Hd : Hid ((toldE s 0 j == 1) = true ↔ ∀ m, 1 ≤ m → m < j + 1 → toldE s 0 m = 1) := by
            unfold Hid
            rw [beq_iff_eq]
            exact ⟨fun h m h1 h2 => by
              by_cases hm : m < j
              · exact hd.out.1 rfl m h1 hm
              · obtain rfl : m = j := by omega
                exact h, fun h => h j hj1 (by omega)⟩
          clear hd
          generalize toldE s 0 j = z at *
          go_wp2
          go_round
          case rel => exact ⟨j + 1, z == 1, by omega, by omega, by go_num, rfl, Hd.out⟩
          case measure => simp [intOf]; omega
      · obtain rfl : j = rs.length := Nat.le_antisymm hj (Nat.le_of_not_lt hlt)
        have Hbd : Hid (fitsV s ((N : Int) - 1 - 1) = d) := by
          unfold Hid; rw [Bool.eq_iff_iff]; exact Hb.out.trans hd.out.symm
        have HA : Hid (∀ x, x = (N : Int) - 1 → ∀ w, RdRows w w.heap.size (.slice (some ⟨bs, os, none⟩) rs.length sc) rs → Calls Try.prog 15 #[.slice (some ⟨bs, os, none⟩) rs.length sc, .int .i64 x] w fun e w' => e = .returned (.bool true) ∧ Below w.heap.size w w') := by
          rintro x rfl w h
          have := Hif9.out ((N : Int) - 1) w h
          rw [Ha.out] at this; exact this
        have HBc : Hid (∀ x, x = (N : Int) - 2 → ∀ w, RdRows w w.heap.size (.slice (some ⟨bs, os, none⟩) rs.length sc) rs → Calls Try.prog 15 #[.slice (some ⟨bs, os, none⟩) rs.length sc, .int .i64 x] w fun e w' => e = .returned (.bool d) ∧ Below w.heap.size w w') := by
          rintro x rfl w h
          have := Hif9.out ((N : Int) - 2) w h
          rw [show (N : Int) - 2 = (N : Int) - 1 - 1 by omega, Hbd.out] at this
          rw [show (N : Int) - 2 = (N : Int) - 1 - 1 by omega]; exact this
        have HC : Hid (∀ x, x = (N : Int) → ∀ w, RdRows w w.heap.size (.slice (some ⟨bs, os, none⟩) rs.length sc) rs → Calls Try.prog 15 #[.slice (some ⟨bs, os, none⟩) rs.length sc, .int .i64 x] w fun e w' => e = .returned (.bool false) ∧ Below w.heap.size w w') := by
          rintro x rfl w h
          have := Hif9.out (N : Int) w h
          rw [show (N : Int) = (N : Int) - 1 + 1 by omega, Hc.out] at this
          rw [show (N : Int) = (N : Int) - 1 + 1 by omega]; exact this
        have hN2' : 2 ≤ (N : Int) := by omega
        have hN32' : (N : Int) ≤ 32 := by omega
        clear hN2 hN32
        clear hd Hbd Hb Ha Hc Hif Hif9
        generalize (N : Int) = NI at *
        go_wp2_with fail
        refine (HA.out _ (by omega) _ HR3.out).mono ?_
        rintro e w4 ⟨rfl, hb4⟩
        have HR4 := Lib.hid (HR3.out.kept hb4)
        have HB4 := Lib.hid (HB3.out.trans (hb4.mono HB3.out.size))
        clear hb4
        go_wp2_with fail
        refine (HBc.out _ (by omega) _ HR4.out).mono ?_
        rintro e w5 ⟨rfl, hb5⟩
        have HR5 := Lib.hid (HR4.out.kept hb5)
        have HB5 := Lib.hid (HB4.out.trans (hb5.mono HB4.out.size))
        clear hb5
        have hdd : (d == d) = true := by cases d <;> rfl
        cases d
        all_goals
          go_wp2_with fail
          refine (HC.out _ (by omega) _ HR5.out).mono ?_
          rintro e w6 ⟨rfl, hb6⟩
          have HB6 := Lib.hid (HB5.out.trans (hb6.mono HB5.out.size))
          clear hb6
          go_wp2
          go_ret
          exact ⟨rfl, HB6.out⟩

set_option maxRecDepth 100000 in
theorem lifted (os : Os) (started : os.Started) (H : Type) (enc : TypeId × Value → H) :
    ReturnsInHanded {} Try.checked os 4 .any (Rows.fnFitsFaultsSpec.pre6 enc Try.prog Try.f4 Rows.fnFitsFaultsRow.domain false) (Rows.fnFitsFaultsSpec.post enc Try.prog Try.f4 false true false false) := by
  refine returnsInHanded_of_change (C := Try.checked) Try.own started (by kernel_rfl) Try.func4
    (ChangeSpec.witness6 (enc := enc) (C := Try.checked) false ⟨#[], #[.slice none 0 0], []⟩ 8 (by kernel_rfl) (by kernel_rfl) (by kernel_rfl) (by kernel_rfl)) ?_
  intro W base args ds gs before hval0 hW hcnd _
  have hval : ∀ (j : Nat) t v, Try.f4.params[j]? = some t → args[j]? = some v → Value.okWide Try.prog W .any base t v := hval0
  have hW' := hW
  obtain ⟨p, q, hA0, hV, rfl, hfz, hnd⟩ := hW
  have hA : DataW.TrodAll enc Try.prog W 0 (fun _ => true) true Try.f4.params.toList args.toList ds p := hA0
  rw [Try.params4] at hA hval
  obtain ⟨v0, vs0, d0, ds0, p0, q0, hargs, rfl, rfl, h0, r0⟩ := trodAll_cons hA
  obtain ⟨rfl, rfl, rfl⟩ := trodAll_nil r0
  obtain rfl : args = #[v0] := by cases args; simp_all
  obtain ⟨rfl, rfl⟩ := trodVars_none hV
  obtain ⟨a0, len0, cap0, rfl⟩ := okWide_slice Try.underlying22 (hval 0 22 v0 rfl rfl)
  have k0 := h0
  have lt0 : ∀ x ∈ p0, x.block < W.heap.size := by obtain ⟨m, hm⟩ := k0; exact DataW.trod_lt m _ _ _ hm
  obtain ⟨z0, w0⟩ : ∃ zs, IsRow .u8 W a0 len0 cap0 zs := by
    obtain ⟨fuel, hf⟩ := h0
    rcases open_ints Try.underlying22 Try.underlying5 (by kernel_rfl) hf with ⟨hcs, _⟩ | ⟨x, l, c, zs, hcs, _, hl, hm, hz, _, hcell, hwz⟩
    · simp [Value.cells] at hcs
      obtain ⟨rfl, rfl, rfl⟩ := hcs
      exact ⟨[], .inl ⟨rfl, rfl, rfl, rfl⟩⟩
    · simp [Value.cells] at hcs
      obtain ⟨rfl, rfl, rfl⟩ := hcs
      exact ⟨zs, .inr ⟨_, rfl, hl, hm, by simpa using hz, hcell, hwz⟩⟩
  clear hA0 hval0
  refine (walk _ _ W (RdBytes.of_row w0)).mono fun e W' ⟨he, bel⟩ => ?_
  subst he
  exact ⟨_, rfl, _, _, _, [], _, [], hW', trodAll_mk1 (shut_bool Try.underlying4 _), (trodAll_cons_mk (Below.trod Try.laidOut (by kernel_rfl) (of_decide_eq_true (by kernel_rfl)) k0 bel lt0) trodAll_mk0), rfl, bel.frame _, fun h => by cases h⟩

theorem closed : joinedFacts Try.pinned.checked.prog 4 Try.f4 Rows.fnFitsFaultsSpec Rows.fnFitsFaultsRow = true := by
  unfold joinedFacts
  exact (and_tt (and_tt (and_tt (and_tt (and_tt (and_tt (and_tt (and_tt (and_tt (and_tt (and_tt (and_tt (and_tt (and_tt (and_tt (and_tt (and_tt (and_tt (and_tt (and_tt (and_tt (and_tt (and_tt (and_tt (and_tt (and_tt (and_tt (and_tt (and_tt (and_tt (and_tt (by kernel_rfl) (by kernel_rfl)) (by kernel_rfl)) (by kernel_rfl)) (by kernel_rfl)) (by kernel_rfl)) (by kernel_rfl)) (by kernel_rfl)) (by kernel_rfl)) (by kernel_rfl)) (by kernel_rfl)) (by kernel_rfl)) (by kernel_rfl)) (by kernel_rfl)) (by kernel_rfl)) (by kernel_rfl)) (by kernel_rfl)) (by kernel_rfl)) (by kernel_rfl)) (by kernel_rfl)) (by kernel_rfl)) (by kernel_rfl)) (by kernel_rfl)) (by kernel_rfl)) (by kernel_rfl)) Try.mayEnter0) (lifted_tt Try.lifts0 rfl)) (make_tt Try.make0 rfl)) (by kernel_rfl)) (by kernel_rfl)) (by kernel_rfl)) (by kernel_rfl))
theorem over : Rows.fnFitsFaultsRow.holds Try.pinned (OpenSpec.ofChange Rows.fnFitsFaultsSpec) :=
  OpenClaim.holds_of_wide 4 Try.f4 rfl rfl rfl rfl rfl rfl rfl ⟨rfl, rfl, rfl, rfl, rfl⟩ rfl rfl rfl rfl rfl (by kernel_rfl) Try.func4 closed
    (of_decide_eq_true (by kernel_rfl)) (by unfold Func.isWrapper; first | (rw [if_pos (by decide +kernel)]; kernel_rfl) | (rw [if_neg (by decide +kernel)]; exact ⟨rfl, rfl⟩))
    (fun os started H enc _ => lifted os started H enc)

theorem proved : Rows.FnFitsFaultsSaid := over
end Go.Proofs.Ytnkgbolgcmjadaa.fnFitsFaults

