/- Contracts of the reference's kinds. -/
import Derived.Test.YtobbbmcppmohoaaSpyM
import Derived.Test.YtobbbmcppmohoaaClaimT
import Derived.Test.YtobbbmcppmohoaaHelpers
import Derived.Test.YtobbbmcppmohoaaMarks
namespace Go.Proofs.Ytobbbmcppmohoaa
open Go.RowKit Go.Joins
theorem kinds_all {zs : List Int} (h : ∀ j, j < zs.length → decide (0 ≤ zs.getD j 0 ∧ zs.getD j 0 ≤ 2) = true) : kindsOk zs = decide (1 ≤ (zs.length : Int) ∧ (zs.length : Int) ≤ 4) := by
  unfold kindsOk
  have e : (zs.all fun z => decide (0 ≤ z ∧ z ≤ 2)) = true := by
    rw [List.all_eq_true]
    intro z hz
    obtain ⟨j, hj, rfl⟩ := List.mem_iff_getElem.1 hz
    have := h j hj
    rw [show zs.getD j 0 = zs[j] by simp [List.getD, hj]] at this
    exact this
  rw [e, Bool.true_and, decide_eq_decide]
  omega
theorem kinds_bad {zs : List Int} {j : Nat} (hj : j < zs.length) (h : decide (0 ≤ zs.getD j 0 ∧ zs.getD j 0 ≤ 2) = false) : kindsOk zs = false := by
  cases hk : kindsOk zs with
  | false => rfl
  | true =>
    have e : zs.getD j 0 = zs[j] := by simp [List.getD, hj]
    have := (kindsOk_iff.1 hk).1 (zs[j]) (List.getElem_mem hj)
    rw [e, decide_eq_false_iff_not] at h
    exact absurd this h
theorem kwV_yes {zs : List Int} (h : kindsOk zs = true) : kwV zs = (kwN zs : Int) := by unfold kwV; rw [h]; rfl
theorem kwV_no {zs : List Int} (h : kindsOk zs = false) : kwV zs = -1 := by unfold kwV; rw [h]; rfl
theorem saysV_no {zs : List Int} {c : Cl} (h : kindsOk zs = false) : saysV zs c = false := by unfold saysV; rw [h]; rfl
theorem saysV_no2 {zs : List Int} {c : Cl} (h : claimOk zs.length c = false) : saysV zs c = false := by unfold saysV; rw [h]; cases kindsOk zs <;> rfl
theorem saysV_yes {zs : List Int} {c : Cl} (h1 : kindsOk zs = true) (h2 : claimOk zs.length c = true) : saysV zs c = saysT zs c := by unfold saysV; rw [h1, h2]; rfl
/-- the worlds of the first kinds -/
def kwK (zs : List Int) (k : Nat) : Nat := tabF k fun j => decide (zs.getD j 0 = 1)
theorem kwK_all (zs : List Int) : kwK zs zs.length = kwN zs := rfl
theorem kwK_succ (zs : List Int) (k : Nat) : kwK zs (k + 1) = if zs.getD k 0 = 1 then kwK zs k ||| 1 <<< k else kwK zs k := by
  unfold kwK
  rw [tabF_succ]
  by_cases h : zs.getD k 0 = 1
  · rw [if_pos h, if_pos (decide_eq_true h)]
  · rw [if_neg h, if_neg (by rw [decide_eq_false h]; decide)]
theorem kwK_lt (zs : List Int) (k : Nat) : kwK zs k < 2 ^ k := tabF_lt _ _
attribute [local irreducible] holds tabN tabV holdsV sameV followsV alwaysV matterV claimOk mayT mayV ctabV ctabN storyV storyOk storyN storyT ctermV ctermL saysT saysV spyT spyV kindsOk kwN kwV tabF
attribute [local irreducible] kwK
set_option maxRecDepth 100000 in
set_option maxHeartbeats 2000000 in
theorem specKindsOk (zs : List Int) (B : Nat) (v : Value) (w : World) (hr : RdInts w B v zs) :
    Calls Try.prog 18 #[v] w fun e w' => e = .returned (.bool (kindsOk zs)) ∧ w = w' := by
  obtain ⟨ao, cap, rfl, hl, hm, hc0⟩ := hr
  have hc := Lib.hid hc0; clear hc0
  unfold maxLen at hm
  have Hall := Lib.hid (fun h => kinds_all (zs := zs) h)
  go_enter Try.func18, Try.ntmps18
  go_wp2
  go_loop [3] (fun i => ∃ k : Nat, k ≤ zs.length ∧ i = .int .i64 k ∧ Hid (∀ j, j < k → decide (0 ≤ zs.getD j 0 ∧ zs.getD j 0 ≤ 2) = true)) (fun i => zs.length - (intOf i).toNat)
  case atStart => exact ⟨0, Nat.zero_le _, rfl, fun j hj => by omega⟩
  case round =>
    obtain ⟨k, hk, rfl, hall⟩ := hrel
    by_cases hlt : k < zs.length
    · obtain ⟨b, off, rfl, hb, hcell⟩ := hc.out k hlt
      cases hw : decide (0 ≤ zs.getD k 0 ∧ zs.getD k 0 ≤ 2) with
      | true =>
        have Hall2 : Hid (∀ j, j < k + 1 → decide (0 ≤ zs.getD j 0 ∧ zs.getD j 0 ≤ 2) = true) := fun j hj => by
          by_cases hjk : j < k
          · exact hall.out j hjk
          · obtain rfl : j = k := by omega
            exact hw
        have Hw := Lib.hid hw.symm; clear hw
        generalize zs.getD k 0 = z at *
        go_wp2_with fail
        refine (specL1In _ _ _ true Hw _).mono ?_
        rintro e w' ⟨rfl, rfl⟩
        go_wp2
        go_round
        case rel => exact ⟨k + 1, by omega, by go_num, Hall2⟩
        case measure => simp [intOf]; omega
      | false =>
        have Hbad := Lib.hid (kinds_bad hlt hw)
        have Hw := Lib.hid hw.symm; clear hw
        generalize zs.getD k 0 = z at *
        go_wp2_with fail
        refine (specL1In _ _ _ false Hw _).mono ?_
        rintro e w' ⟨rfl, rfl⟩
        go_wp2
        go_ret
        exact ⟨by rw [Hbad.out]; rfl, rfl⟩
    · obtain rfl : k = zs.length := by omega
      have Hv := Lib.hid (Hall.out hall.out)
      go_wp2_with fail
      refine (specL1In _ _ _ (kindsOk zs) Hv _).mono ?_
      rintro e w' ⟨rfl, rfl⟩
      go_wp2
      go_ret
      exact ⟨rfl, rfl⟩
set_option maxRecDepth 100000 in
set_option maxHeartbeats 2000000 in
theorem specKw (zs : List Int) (h4 : zs.length ≤ 4) (B : Nat) (v : Value) (w : World) (hr : RdInts w B v zs) :
    Calls Try.prog 59 #[v] w fun e w' => e = .returned (.int .i64 (kwN zs)) ∧ w = w' := by
  obtain ⟨ao, cap, rfl, hl, hm, hc0⟩ := hr
  have hc := Lib.hid hc0; clear hc0
  unfold maxLen at hm
  have Hend := Lib.hid (kwK_all zs)
  go_enter Try.func59, Try.ntmps59
  go_wp2
  go_loop [3, 4] (fun t i => ∃ k : Nat, k ≤ zs.length ∧ i = .int .i64 k ∧ t = .int .i64 (kwK zs k)) (fun _ i => zs.length - (intOf i).toNat)
  case atStart => exact ⟨0, Nat.zero_le _, rfl, by unfold kwK tabF; rfl⟩
  case round =>
    obtain ⟨k, hk, rfl, rfl⟩ := hrel
    by_cases hlt : k < zs.length
    · obtain ⟨b, off, rfl, hb, hcell⟩ := hc.out k hlt
      have hs := kwK_succ zs k
      have hor := or_shlN (t := kwK zs k) (x := k) (N := 4) (Nat.lt_of_lt_of_le (kwK_lt zs k) (Nat.pow_le_pow_right (by decide) (by omega))) (by decide) (by omega)
      rw [Nat.min_eq_left (by omega)] at hor
      generalize kwK zs k = T at *
      by_cases hz : zs.getD k 0 = 1
      · rw [if_pos hz] at hs
        rw [hz] at hcell
        have Hs := Lib.hid hs
        clear hs hz
        go_wp2
        go_round
        case rel => exact ⟨k + 1, by omega, by go_num, by rw [Hs.out, ← hor]⟩
        case measure => simp [intOf]; omega
      · rw [if_neg hz] at hs
        have Hs := Lib.hid hs
        have hz1 : (zs.getD k 0 == 1) = false := by rw [beq_eq_false_iff_ne]; exact hz
        clear hs hz hor
        generalize zs.getD k 0 = z at *
        go_wp2
        go_round
        case rel => exact ⟨k + 1, by omega, by go_num, by rw [Hs.out]⟩
        case measure => simp [intOf]; omega
    · obtain rfl : k = zs.length := by omega
      go_wp2
      go_ret
      exact ⟨by rw [← Hend.out]; rfl, rfl⟩
set_option maxRecDepth 100000 in
set_option maxHeartbeats 2000000 in
theorem specWorldOfKinds (zs : List Int) (B : Nat) (v : Value) (w : World) (hr : RdInts w B v zs) :
    Calls Try.prog 21 #[v] w fun e w' => e = .returned (.int .i64 (kwV zs)) ∧ w = w' := by
  have hk := fun w h => specKindsOk zs B v w h
  have hW := fun h4 w h => specKw zs h4 B v w h
  have hr0 := hr
  obtain ⟨ao, cap, rfl, _, _, _⟩ := hr0
  cases hok : kindsOk zs with
  | false =>
    have Hf := Lib.hid (kwV_no hok)
    rw [hok] at hk
    have Hk := Lib.hid hk; clear hk hok
    go_enter Try.func21, Try.ntmps21
    go_wp2_with fail
    refine (Hk.out _ hr).mono ?_
    rintro e w' ⟨rfl, rfl⟩
    go_wp2
    go_ret
    exact ⟨by rw [Hf.out]; rfl, rfl⟩
  | true =>
    have Hf := Lib.hid (kwV_yes hok)
    have Hw := Lib.hid (fun w h => hW (kindsOk_iff.1 hok).2.2 w h)
    rw [hok] at hk
    have Hk := Lib.hid hk; clear hk hok hW
    go_enter Try.func21, Try.ntmps21
    go_wp2_with fail
    refine (Hk.out _ hr).mono ?_
    rintro e w' ⟨rfl, rfl⟩
    go_wp2_with fail
    refine (Hw.out _ hr).mono ?_
    rintro e w' ⟨rfl, rfl⟩
    go_wp2
    go_ret
    exact ⟨by rw [Hf.out]; rfl, rfl⟩
end Go.Proofs.Ytobbbmcppmohoaa
