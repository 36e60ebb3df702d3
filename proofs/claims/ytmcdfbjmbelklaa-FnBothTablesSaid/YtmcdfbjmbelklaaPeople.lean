/- Contracts of chapter 1's functions: people and worlds, in the program and in the reference model. -/
import Derived.Test.YtmcdfbjmbelklaaBase
namespace Go.Proofs.Ytmcdfbjmbelklaa
open Go.RowKit

theorem Try.info3 : (Try.prog.info? 3).map (fun i => (i.zero, i.size, i.bytes)) = some (some (.int .i64 0), 1, 8) := by kernel_rfl

set_option maxHeartbeats 400000 in
theorem implWorldOk (p x : Int) (w : World) :
    Calls Try.prog 36 #[.int .i64 p, .int .i64 x] w fun e w' => e = .returned (.bool (wOk p x)) ∧ w = w' := by
  by_cases h : 1 ≤ p ∧ p ≤ 4
  · obtain ⟨h1, h2⟩ := h
    rcases p_cases h1 h2 with rfl | rfl | rfl | rfl
    all_goals
      clear h1 h2
      go_enter Try.func36, Try.ntmps36
      go_wp2
      all_goals
        go_ret
        exact ⟨ret_bool (by first | (simp [wOk]; done) | (rw [Bool.eq_iff_iff]; simp [wOk]; omega)), rfl⟩
  · by_cases h1 : 1 ≤ p
    · have h2 : 4 < p := by omega
      clear h
      go_enter Try.func36, Try.ntmps36
      go_wp2
      go_ret
      exact ⟨ret_bool (by simp [wOk]; try omega), rfl⟩
    · have h2 : p < 1 := by omega
      clear h
      go_enter Try.func36, Try.ntmps36
      go_wp2
      go_ret
      exact ⟨ret_bool (by simp [wOk]; try omega), rfl⟩

set_option maxHeartbeats 400000 in
theorem implTableOk (p x : Int) (w : World) :
    Calls Try.prog 39 #[.int .i64 p, .int .i64 x] w fun e w' => e = .returned (.bool (tOk p x)) ∧ w = w' := by
  by_cases h : 1 ≤ p ∧ p ≤ 4
  · obtain ⟨h1, h2⟩ := h
    rcases p_cases h1 h2 with rfl | rfl | rfl | rfl
    all_goals
      clear h1 h2
      go_enter Try.func39, Try.ntmps39
      go_wp2
      all_goals
        go_ret
        exact ⟨ret_bool (by first | (simp [tOk]; done) | (rw [Bool.eq_iff_iff]; simp [tOk]; omega)), rfl⟩
  · by_cases h1 : 1 ≤ p
    · have h2 : 4 < p := by omega
      clear h
      go_enter Try.func39, Try.ntmps39
      go_wp2
      go_ret
      exact ⟨ret_bool (by simp [tOk]; try omega), rfl⟩
    · have h2 : p < 1 := by omega
      clear h
      go_enter Try.func39, Try.ntmps39
      go_wp2
      go_ret
      exact ⟨ret_bool (by simp [tOk]; try omega), rfl⟩

set_option maxHeartbeats 400000 in
theorem specWorldOk (p x : Int) (w : World) :
    Calls Try.prog 38 #[.int .i64 p, .int .i64 x] w fun e w' => e = .returned (.bool (wOk p x)) ∧ w = w' := by
  by_cases h : 1 ≤ p ∧ p ≤ 4
  · obtain ⟨h1, h2⟩ := h
    rcases p_cases h1 h2 with rfl | rfl | rfl | rfl
    all_goals
      clear h1 h2
      go_enter Try.func38, Try.ntmps38
      go_wp2
      all_goals
        go_ret
        exact ⟨ret_bool (by first | (simp [wOk]; done) | (rw [Bool.eq_iff_iff]; simp [wOk]; omega)), rfl⟩
  · by_cases h1 : 1 ≤ p
    · have h2 : 4 < p := by omega
      clear h
      go_enter Try.func38, Try.ntmps38
      go_wp2
      go_ret
      exact ⟨ret_bool (by simp [wOk]; try omega), rfl⟩
    · have h2 : p < 1 := by omega
      clear h
      go_enter Try.func38, Try.ntmps38
      go_wp2
      go_ret
      exact ⟨ret_bool (by simp [wOk]; try omega), rfl⟩

set_option maxHeartbeats 400000 in
theorem specTableOk (p x : Int) (w : World) :
    Calls Try.prog 18 #[.int .i64 p, .int .i64 x] w fun e w' => e = .returned (.bool (tOk p x)) ∧ w = w' := by
  by_cases h : 1 ≤ p ∧ p ≤ 4
  · obtain ⟨h1, h2⟩ := h
    rcases p_cases h1 h2 with rfl | rfl | rfl | rfl
    all_goals
      clear h1 h2
      go_enter Try.func18, Try.ntmps18
      go_wp2
      all_goals
        go_ret
        exact ⟨ret_bool (by first | (simp [tOk]; done) | (rw [Bool.eq_iff_iff]; simp [tOk]; omega)), rfl⟩
  · by_cases h1 : 1 ≤ p
    · have h2 : 4 < p := by omega
      clear h
      go_enter Try.func18, Try.ntmps18
      go_wp2
      go_ret
      exact ⟨ret_bool (by simp [tOk]; try omega), rfl⟩
    · have h2 : p < 1 := by omega
      clear h
      go_enter Try.func18, Try.ntmps18
      go_wp2
      go_ret
      exact ⟨ret_bool (by simp [tOk]; try omega), rfl⟩

set_option maxHeartbeats 400000 in
theorem implPeopleOk (p : Int) (w : World) :
    Calls Try.prog 35 #[.int .i64 p] w fun e w' => e = .returned (.bool (pOk p)) ∧ w = w' := by
  by_cases h : 1 ≤ p
  all_goals
    go_enter Try.func35, Try.ntmps35
    go_wp2
    go_ret
    exact ⟨ret_bool (by rw [Bool.eq_iff_iff]; simp [pOk]; omega), rfl⟩

set_option maxHeartbeats 400000 in
theorem implWorldCount (p : Int) (N : Nat) (hN : Hid ((N : Int) = 2 ^ p.toNat)) (h1 : 1 ≤ p) (h2 : p ≤ 4) (w : World) :
    Calls Try.prog 40 #[.int .i64 p] w fun e w' => e = .returned (.int .i64 N) ∧ w = w' := by
  rcases p_cases h1 h2 with rfl | rfl | rfl | rfl
  all_goals
    clear h1 h2
    go_enter Try.func40, Try.ntmps40
    go_wp2
    go_ret
    exact ⟨ret_int (by rw [hN.out]; rfl), rfl⟩

theorem cnt_of (p : Int) : Hid (((2 ^ p.toNat : Nat) : Int) = 2 ^ p.toNat) := by simp [Hid]
theorem lt16_cases {x : Int} (h0 : 0 ≤ x) (h1 : x < 16) : x = 0 ∨ x = 1 ∨ x = 2 ∨ x = 3 ∨ x = 4 ∨ x = 5 ∨ x = 6 ∨ x = 7 ∨ x = 8 ∨ x = 9 ∨ x = 10 ∨ x = 11 ∨ x = 12 ∨ x = 13 ∨ x = 14 ∨ x = 15 := by omega


set_option maxHeartbeats 400000 in
theorem implOppositeWorld_no (p x : Int) (h : Hid (wOk p x = false)) (w : World) :
    Calls Try.prog 42 #[.int .i64 p, .int .i64 x] w fun e w' => e = .returned (.int .i64 (-1)) ∧ w = w' := by
  go_enter Try.func42, Try.ntmps42
  go_wp2_with fail
  refine (implWorldOk _ _ _).mono ?_
  rintro e w' ⟨rfl, rfl⟩
  rw [h.out]
  go_wp2
  go_ret
  exact ⟨rfl, rfl⟩

set_option maxHeartbeats 400000 in
theorem implOppositeTable_no (p x : Int) (h : Hid (tOk p x = false)) (w : World) :
    Calls Try.prog 17 #[.int .i64 p, .int .i64 x] w fun e w' => e = .returned (.int .i64 (-1)) ∧ w = w' := by
  go_enter Try.func17, Try.ntmps17
  go_wp2_with fail
  refine (implTableOk _ _ _).mono ?_
  rintro e w' ⟨rfl, rfl⟩
  rw [h.out]
  go_wp2
  go_ret
  exact ⟨rfl, rfl⟩



set_option maxHeartbeats 400000 in
theorem implOppositeWorld_yes (p x : Int) (N : Nat) (h : Hid (wOk p x = true)) (hN : Hid ((N : Int) = 2 ^ p.toNat)) (w : World) :
    Calls Try.prog 42 #[.int .i64 p, .int .i64 x] w fun e w' => e = .returned (.int .i64 (N - 1 - x)) ∧ w = w' := by
  have hx := wOk_lt h.out
  obtain ⟨hp1, hp2, h0, h1⟩ := hx
  have hNl : (N : Int) ≤ 16 := by rw [hN.out]; rcases p_cases hp1 hp2 with rfl | rfl | rfl | rfl <;> decide
  go_enter Try.func42, Try.ntmps42
  go_wp2_with fail
  refine (implWorldOk _ _ _).mono ?_
  rintro e w' ⟨rfl, rfl⟩
  rw [h.out]
  go_wp2_with fail
  refine (implWorldCount p N hN hp1 hp2 _).mono ?_
  rintro e w' ⟨rfl, rfl⟩
  go_wp2
  go_ret
  exact ⟨rfl, rfl⟩


end Go.Proofs.Ytmcdfbjmbelklaa
