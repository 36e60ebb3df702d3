/- Contracts of chapter 1's functions: people and worlds, in the program and in the reference model. -/
import Derived.Test.YtmcdfbjmbelklaaDoorBase
namespace Go.Proofs.YtmcdfbjmbelklaaDoor
open Go.RowKit

theorem Tryd.info3 : (Tryd.prog.info? 3).map (fun i => (i.zero, i.size, i.bytes)) = some (some (.int .i64 0), 1, 8) := by kernel_rfl

set_option maxHeartbeats 400000 in
theorem implWorldOk (p x : Int) (w : World) :
    Calls Tryd.prog 33 #[.int .i64 p, .int .i64 x] w fun e w' => e = .returned (.bool (wOk p x)) ∧ w = w' := by
  by_cases h : 1 ≤ p ∧ p ≤ 4
  · obtain ⟨h1, h2⟩ := h
    rcases p_cases h1 h2 with rfl | rfl | rfl | rfl
    all_goals
      clear h1 h2
      go_enter Tryd.func33, Tryd.ntmps33
      go_wp2
      all_goals
        go_ret
        exact ⟨ret_bool (by first | (simp [wOk]; done) | (rw [Bool.eq_iff_iff]; simp [wOk]; omega)), rfl⟩
  · by_cases h1 : 1 ≤ p
    · have h2 : 4 < p := by omega
      clear h
      go_enter Tryd.func33, Tryd.ntmps33
      go_wp2
      go_ret
      exact ⟨ret_bool (by simp [wOk]; try omega), rfl⟩
    · have h2 : p < 1 := by omega
      clear h
      go_enter Tryd.func33, Tryd.ntmps33
      go_wp2
      go_ret
      exact ⟨ret_bool (by simp [wOk]; try omega), rfl⟩

set_option maxHeartbeats 400000 in
theorem implPeopleOk (p : Int) (w : World) :
    Calls Tryd.prog 31 #[.int .i64 p] w fun e w' => e = .returned (.bool (pOk p)) ∧ w = w' := by
  by_cases h : 1 ≤ p
  all_goals
    go_enter Tryd.func31, Tryd.ntmps31
    go_wp2
    go_ret
    exact ⟨ret_bool (by rw [Bool.eq_iff_iff]; simp [pOk]; omega), rfl⟩

set_option maxHeartbeats 400000 in
theorem implWorldCount (p : Int) (N : Nat) (hN : Hid ((N : Int) = 2 ^ p.toNat)) (h1 : 1 ≤ p) (h2 : p ≤ 4) (w : World) :
    Calls Tryd.prog 48 #[.int .i64 p] w fun e w' => e = .returned (.int .i64 N) ∧ w = w' := by
  rcases p_cases h1 h2 with rfl | rfl | rfl | rfl
  all_goals
    clear h1 h2
    go_enter Tryd.func48, Tryd.ntmps48
    go_wp2
    go_ret
    exact ⟨ret_int (by rw [hN.out]; rfl), rfl⟩

theorem cnt_of (p : Int) : Hid (((2 ^ p.toNat : Nat) : Int) = 2 ^ p.toNat) := by simp [Hid]
theorem lt16_cases {x : Int} (h0 : 0 ≤ x) (h1 : x < 16) : x = 0 ∨ x = 1 ∨ x = 2 ∨ x = 3 ∨ x = 4 ∨ x = 5 ∨ x = 6 ∨ x = 7 ∨ x = 8 ∨ x = 9 ∨ x = 10 ∨ x = 11 ∨ x = 12 ∨ x = 13 ∨ x = 14 ∨ x = 15 := by omega






end Go.Proofs.YtmcdfbjmbelklaaDoor
