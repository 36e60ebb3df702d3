/- Contract of the laws' own count of bits. -/
import Derived.Test.YtnkgbolgcmjadaaPeople
namespace Go.Proofs.Ytnkgbolgcmjadaa
open Go.RowKit
set_option maxHeartbeats 400000 in
theorem lawHeads (n : Nat) (hn : n < 9223372036854775808) (w : World) :
    Calls Try.prog 22 #[.int .i64 n] w fun e w' => e = .returned (.int .i64 (heads n)) ∧ w = w' := by
  have hle := heads_le n
  go_enter Try.func22, Try.ntmps22
  go_wp2
  go_loop [0, 3] (fun m s => ∃ k t : Nat, k ≤ n ∧ t ≤ heads n ∧ Hid (t + heads k = heads n) ∧ m = .int .i64 k ∧ s = .int .i64 t) (fun m _ => (intOf m).toNat)
  case atStart => exact ⟨n, 0, Nat.le_refl _, Nat.zero_le _, Nat.zero_add _, rfl, rfl⟩
  case round =>
    obtain ⟨k, t, hk, ht, hsum, rfl, rfl⟩ := hrel
    by_cases hlt : 0 < k
    · have hst := Lib.hid (heads_step k (by omega))
      have hb : (t : Int) + (k : Int) % 2 ≤ 9223372036854775807 := by have h1 := hsum.out; have h2 := hst.out; omega
      go_wp2
      go_round
      case rel =>
        have h1 := hsum.out
        have h2 := hst.out
        exact ⟨k / 2, t + k % 2, by omega, by omega, by unfold Hid; omega, by go_num, by go_num⟩
      case measure => simp [intOf]; omega
    · have hz : k = 0 := by omega
      subst hz
      go_wp2
      go_ret
      have h1 := hsum.out
      rw [show heads 0 = 0 from headsF_zero 64] at h1
      exact ⟨ret_int (by omega), rfl⟩
end Go.Proofs.Ytnkgbolgcmjadaa
