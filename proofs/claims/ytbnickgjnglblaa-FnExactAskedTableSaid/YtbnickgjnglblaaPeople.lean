/- Contracts of chapter 1's functions: people and worlds, in the program and in the reference model. -/
import Derived.Test.YtbnickgjnglblaaBase
namespace Go.Proofs.Ytbnickgjnglblaa
open Go.RowKit

theorem Try.info3 : (Try.prog.info? 3).map (fun i => (i.zero, i.size, i.bytes)) = some (some (.int .i64 0), 1, 8) := by kernel_rfl

set_option maxHeartbeats 400000 in
theorem implWorldOk (p x : Int) (w : World) :
    Calls Try.prog 25 #[.int .i64 p, .int .i64 x] w fun e w' => e = .returned (.bool (wOk p x)) ∧ w = w' := by
  by_cases h : 1 ≤ p ∧ p ≤ 4
  · obtain ⟨h1, h2⟩ := h
    rcases p_cases h1 h2 with rfl | rfl | rfl | rfl
    all_goals
      clear h1 h2
      go_enter Try.func25, Try.ntmps25
      go_wp2
      all_goals
        go_ret
        exact ⟨ret_bool (by first | (simp [wOk]; done) | (rw [Bool.eq_iff_iff]; simp [wOk]; omega)), rfl⟩
  · by_cases h1 : 1 ≤ p
    · have h2 : 4 < p := by omega
      clear h
      go_enter Try.func25, Try.ntmps25
      go_wp2
      go_ret
      exact ⟨ret_bool (by simp [wOk]; try omega), rfl⟩
    · have h2 : p < 1 := by omega
      clear h
      go_enter Try.func25, Try.ntmps25
      go_wp2
      go_ret
      exact ⟨ret_bool (by simp [wOk]; try omega), rfl⟩

set_option maxHeartbeats 400000 in
theorem implTableOk (p x : Int) (w : World) :
    Calls Try.prog 12 #[.int .i64 p, .int .i64 x] w fun e w' => e = .returned (.bool (tOk p x)) ∧ w = w' := by
  by_cases h : 1 ≤ p ∧ p ≤ 4
  · obtain ⟨h1, h2⟩ := h
    rcases p_cases h1 h2 with rfl | rfl | rfl | rfl
    all_goals
      clear h1 h2
      go_enter Try.func12, Try.ntmps12
      go_wp2
      all_goals
        go_ret
        exact ⟨ret_bool (by first | (simp [tOk]; done) | (rw [Bool.eq_iff_iff]; simp [tOk]; omega)), rfl⟩
  · by_cases h1 : 1 ≤ p
    · have h2 : 4 < p := by omega
      clear h
      go_enter Try.func12, Try.ntmps12
      go_wp2
      go_ret
      exact ⟨ret_bool (by simp [tOk]; try omega), rfl⟩
    · have h2 : p < 1 := by omega
      clear h
      go_enter Try.func12, Try.ntmps12
      go_wp2
      go_ret
      exact ⟨ret_bool (by simp [tOk]; try omega), rfl⟩

set_option maxHeartbeats 400000 in
theorem specTableOk (p x : Int) (w : World) :
    Calls Try.prog 31 #[.int .i64 p, .int .i64 x] w fun e w' => e = .returned (.bool (tOk p x)) ∧ w = w' := by
  by_cases h : 1 ≤ p ∧ p ≤ 4
  · obtain ⟨h1, h2⟩ := h
    rcases p_cases h1 h2 with rfl | rfl | rfl | rfl
    all_goals
      clear h1 h2
      go_enter Try.func31, Try.ntmps31
      go_wp2
      all_goals
        go_ret
        exact ⟨ret_bool (by first | (simp [tOk]; done) | (rw [Bool.eq_iff_iff]; simp [tOk]; omega)), rfl⟩
  · by_cases h1 : 1 ≤ p
    · have h2 : 4 < p := by omega
      clear h
      go_enter Try.func31, Try.ntmps31
      go_wp2
      go_ret
      exact ⟨ret_bool (by simp [tOk]; try omega), rfl⟩
    · have h2 : p < 1 := by omega
      clear h
      go_enter Try.func31, Try.ntmps31
      go_wp2
      go_ret
      exact ⟨ret_bool (by simp [tOk]; try omega), rfl⟩

set_option maxHeartbeats 400000 in
theorem implPeopleOk (p : Int) (w : World) :
    Calls Try.prog 20 #[.int .i64 p] w fun e w' => e = .returned (.bool (pOk p)) ∧ w = w' := by
  by_cases h : 1 ≤ p
  all_goals
    go_enter Try.func20, Try.ntmps20
    go_wp2
    go_ret
    exact ⟨ret_bool (by rw [Bool.eq_iff_iff]; simp [pOk]; omega), rfl⟩

set_option maxHeartbeats 400000 in
theorem implPersonOk (p k : Int) (w : World) :
    Calls Try.prog 28 #[.int .i64 p, .int .i64 k] w fun e w' => e = .returned (.bool (decide (0 ≤ k ∧ k < p))) ∧ w = w' := by
  by_cases h : 0 ≤ k
  all_goals
    go_enter Try.func28, Try.ntmps28
    go_wp2
    go_ret
    exact ⟨ret_bool (by rw [Bool.eq_iff_iff]; simp; try omega), rfl⟩

set_option maxHeartbeats 400000 in
theorem implWorldCount (p : Int) (N : Nat) (hN : Hid ((N : Int) = 2 ^ p.toNat)) (h1 : 1 ≤ p) (h2 : p ≤ 4) (w : World) :
    Calls Try.prog 21 #[.int .i64 p] w fun e w' => e = .returned (.int .i64 N) ∧ w = w' := by
  rcases p_cases h1 h2 with rfl | rfl | rfl | rfl
  all_goals
    clear h1 h2
    go_enter Try.func21, Try.ntmps21
    go_wp2
    go_ret
    exact ⟨ret_int (by rw [hN.out]; rfl), rfl⟩

theorem cnt_of (p : Int) : Hid (((2 ^ p.toNat : Nat) : Int) = 2 ^ p.toNat) := by simp [Hid]
theorem lt16_cases {x : Int} (h0 : 0 ≤ x) (h1 : x < 16) : x = 0 ∨ x = 1 ∨ x = 2 ∨ x = 3 ∨ x = 4 ∨ x = 5 ∨ x = 6 ∨ x = 7 ∨ x = 8 ∨ x = 9 ∨ x = 10 ∨ x = 11 ∨ x = 12 ∨ x = 13 ∨ x = 14 ∨ x = 15 := by omega

set_option maxHeartbeats 1000000 in
theorem onesCount16 (x : Int) (h0 : 0 ≤ x) (h1 : x < 16) (w : World) :
    Calls Try.prog 43 #[.int .u64 x] w fun e w' => e = .returned (.int .i64 (heads x.toNat)) ∧ w = w' := by
  rcases lt16_cases h0 h1 with rfl | rfl | rfl | rfl | rfl | rfl | rfl | rfl | rfl | rfl | rfl | rfl | rfl | rfl | rfl | rfl
  all_goals
    clear h0 h1
    go_enter Try.func43, Try.ntmps43
    go_wp2
    go_ret
    exact ⟨ret_int (by kernel_rfl), rfl⟩

set_option maxHeartbeats 400000 in
theorem implTellersIn_no (p x : Int) (h : Hid (wOk p x = false)) (w : World) :
    Calls Try.prog 22 #[.int .i64 p, .int .i64 x] w fun e w' => e = .returned (.int .i64 (-1)) ∧ w = w' := by
  go_enter Try.func22, Try.ntmps22
  go_wp2_with fail
  refine (implWorldOk _ _ _).mono ?_
  rintro e w' ⟨rfl, rfl⟩
  rw [h.out]
  go_wp2
  go_ret
  exact ⟨rfl, rfl⟩

set_option maxHeartbeats 400000 in
theorem implOppositeWorld_no (p x : Int) (h : Hid (wOk p x = false)) (w : World) :
    Calls Try.prog 26 #[.int .i64 p, .int .i64 x] w fun e w' => e = .returned (.int .i64 (-1)) ∧ w = w' := by
  go_enter Try.func26, Try.ntmps26
  go_wp2_with fail
  refine (implWorldOk _ _ _).mono ?_
  rintro e w' ⟨rfl, rfl⟩
  rw [h.out]
  go_wp2
  go_ret
  exact ⟨rfl, rfl⟩

set_option maxHeartbeats 400000 in
theorem implOppositeTable_no (p x : Int) (h : Hid (tOk p x = false)) (w : World) :
    Calls Try.prog 11 #[.int .i64 p, .int .i64 x] w fun e w' => e = .returned (.int .i64 (-1)) ∧ w = w' := by
  go_enter Try.func11, Try.ntmps11
  go_wp2_with fail
  refine (implTableOk _ _ _).mono ?_
  rintro e w' ⟨rfl, rfl⟩
  rw [h.out]
  go_wp2
  go_ret
  exact ⟨rfl, rfl⟩

set_option maxHeartbeats 1000000 in
theorem implTellersIn_yes (p x : Int) (h : Hid (wOk p x = true)) (w : World) :
    Calls Try.prog 22 #[.int .i64 p, .int .i64 x] w fun e w' => e = .returned (.int .i64 (heads x.toNat)) ∧ w = w' := by
  have hx := wOk_lt h.out
  obtain ⟨_, _, h0, h1⟩ := hx
  go_enter Try.func22, Try.ntmps22
  go_wp2_with fail
  refine (implWorldOk _ _ _).mono ?_
  rintro e w' ⟨rfl, rfl⟩
  rw [h.out]
  go_wp2_with (first | (go_at_call 43; refine (onesCount16 _ h0 h1 _).mono ?_; rintro e w' ⟨rfl, rfl⟩) | go_in)
  go_ret
  exact ⟨rfl, rfl⟩
set_option maxHeartbeats 400000 in
theorem specHeads (n : Nat) (hn : n < 9223372036854775808) (w : World) :
    Calls Try.prog 24 #[.int .i64 n] w fun e w' => e = .returned (.int .i64 (heads n)) ∧ w = w' := by
  have hle := heads_le n
  go_enter Try.func24, Try.ntmps24
  go_wp2
  go_loop [0, 3] (fun m s => ∃ k t : Nat, k ≤ n ∧ t ≤ heads n ∧ Hid (t + heads k = heads n) ∧ m = .int .i64 k ∧ s = .int .i64 t) (fun m _ => (intOf m).toNat)
  case atStart => exact ⟨n, 0, Nat.le_refl _, Nat.zero_le _, Nat.zero_add _, rfl, rfl⟩
  case round =>
    obtain ⟨k, t, hk, ht, hsum, rfl, rfl⟩ := hrel
    by_cases hlt : 0 < k
    · have hst := Lib.hid (heads_step k (by omega))
      have hb : (t : Int) + (k : Int) % 2 ≤ 9223372036854775807 := by have h1 := hsum.out; have h2 := hst.out; omega
      go_wp2
      go_round
      case rel =>
        have h1 := hsum.out
        have h2 := hst.out
        exact ⟨k / 2, t + k % 2, by omega, by omega, by unfold Hid; omega, by go_num, by go_num⟩
      case measure => simp [intOf]; omega
    · have hz : k = 0 := by omega
      subst hz
      go_wp2
      go_ret
      have h1 := hsum.out
      rw [show heads 0 = 0 from headsF_zero 64] at h1
      exact ⟨ret_int (by omega), rfl⟩


set_option maxHeartbeats 400000 in
theorem implOppositeWorld_yes (p x : Int) (N : Nat) (h : Hid (wOk p x = true)) (hN : Hid ((N : Int) = 2 ^ p.toNat)) (w : World) :
    Calls Try.prog 26 #[.int .i64 p, .int .i64 x] w fun e w' => e = .returned (.int .i64 (N - 1 - x)) ∧ w = w' := by
  have hx := wOk_lt h.out
  obtain ⟨hp1, hp2, h0, h1⟩ := hx
  have hNl : (N : Int) ≤ 16 := by rw [hN.out]; rcases p_cases hp1 hp2 with rfl | rfl | rfl | rfl <;> decide
  go_enter Try.func26, Try.ntmps26
  go_wp2_with fail
  refine (implWorldOk _ _ _).mono ?_
  rintro e w' ⟨rfl, rfl⟩
  rw [h.out]
  go_wp2_with fail
  refine (implWorldCount p N hN hp1 hp2 _).mono ?_
  rintro e w' ⟨rfl, rfl⟩
  go_wp2
  go_ret
  exact ⟨rfl, rfl⟩


end Go.Proofs.Ytbnickgjnglblaa
