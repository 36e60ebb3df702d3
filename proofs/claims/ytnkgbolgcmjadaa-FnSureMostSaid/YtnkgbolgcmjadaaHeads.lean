/- How many bits of a number are 1, and the list of them. -/
import Derived.Test.YtnkgbolgcmjadaaPeople
namespace Go.Proofs.Ytnkgbolgcmjadaa
open Go.RowKit
theorem heads_nil9 : heads 0 = 0 := headsF_zero 64
theorem wl_len_step9 (T : Nat) : ∀ k, (wl T (k + 1)).length = T % 2 + (wl (T / 2) k).length := by
  intro k
  induction k with
  | zero =>
    rw [wl_succ, List.length_append]
    have h := bit_mod T 0
    rw [Nat.shiftRight_zero] at h
    rw [h]
    cases T.testBit 0 <;> rfl
  | succ k ih =>
    rw [wl_succ, List.length_append, ih, wl_succ (T / 2) k, List.length_append, Nat.testBit_succ]
    cases (T / 2).testBit k <;> simp <;> omega
theorem wl_heads9 : ∀ (N T : Nat), N ≤ 32 → T < 2 ^ N → (wl T N).length = heads T := by
  intro N
  induction N with
  | zero =>
    intro T _ h
    obtain rfl : T = 0 := by simpa using h
    rw [heads_nil9]; rfl
  | succ N ih =>
    intro T hN h
    have h32 : 2 ^ (N + 1) ≤ 2 ^ 32 := Nat.pow_le_pow_right (by omega) hN
    rw [wl_len_step9, heads_step T (by omega), ih (T / 2) (by omega) (by rw [Nat.pow_succ] at h; omega)]
end Go.Proofs.Ytnkgbolgcmjadaa
