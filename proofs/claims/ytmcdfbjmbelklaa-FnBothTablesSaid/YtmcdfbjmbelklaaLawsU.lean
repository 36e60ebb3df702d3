/- Chapter 1's law of opposite tables. It answers true, whatever the code. No condition. -/
import Derived.Test.YtmcdfbjmbelklaaLawsT
namespace Go.Proofs.Ytmcdfbjmbelklaa
open Go.RowKit

theorem count_rev (f : Nat → Bool) : ∀ n, ((List.range n).filter fun i => f (n - 1 - i)).length = ((List.range n).filter f).length := by
  intro n
  induction n with
  | zero => rfl
  | succ n ih =>
    have h1 : ((List.range (n + 1)).filter fun i => f (n + 1 - 1 - i)).length = (if f n = true then 1 else 0) + ((List.range n).filter fun i => f (n - 1 - i)).length := by
      rw [List.range_succ_eq_map, List.filter_cons, List.filter_map]
      have e : ((fun i => f (n + 1 - 1 - i)) ∘ Nat.succ) = fun i => f (n - 1 - i) := by
        funext i; show f (n + 1 - 1 - (i + 1)) = _; congr 1; omega
      rw [e, show n + 1 - 1 - 0 = n from by omega]
      split
      · rw [List.length_cons, List.length_map]; omega
      · rw [List.length_map]; omega
    have h2 : ((List.range (n + 1)).filter f).length = ((List.range n).filter f).length + (if f n = true then 1 else 0) := by
      rw [List.range_succ, List.filter_append, List.length_append]
      by_cases h : f n = true
      · simp [h]
      · simp [h]
    rw [h1, h2, ih]; omega
theorem turned_bit {T N j : Nat} (hj : j < N) : (turned T N N).testBit j = T.testBit (N - 1 - j) := by
  unfold turned
  rw [tabOf_bit, Bool.eq_iff_iff]
  simp only [decide_eq_true_eq, List.mem_map, wl_mem]
  constructor
  · rintro ⟨i, ⟨hi, hb⟩, rfl⟩
    rwa [show N - 1 - (N - 1 - i) = i from by omega]
  · intro h
    exact ⟨N - 1 - j, ⟨by omega, h⟩, by omega⟩
theorem turned_turned {T N : Nat} (hT : T < 2 ^ N) (hN : 0 < N) : turned (turned T N N) N N = T := by
  refine bit_ext (turned_lt (Nat.le_refl _) hN) hT fun j hj => ?_
  rw [turned_bit hj, turned_bit (by omega)]
  rw [show N - 1 - (N - 1 - j) = j from by omega]
theorem turned_len (T N : Nat) : (wl (turned T N N) N).length = (wl T N).length := by
  unfold wl
  rw [← count_rev (fun i => T.testBit i) N]
  congr 1
  refine List.filter_congr fun i hi => ?_
  exact turned_bit (by simpa using hi)
theorem opp_mem {T N i : Nat} (hi : i ∈ wl T N) : N - 1 - i ∈ wl (turned T N N) N := by
  obtain ⟨h1, h2⟩ := wl_mem.1 hi
  refine wl_mem.2 ⟨by omega, ?_⟩
  rw [turned_bit (by omega), show N - 1 - (N - 1 - i) = i from by omega]
  exact h2
theorem N_eq {p : Int} {N : Nat} (hN : (N : Int) = 2 ^ p.toNat) : N = 2 ^ p.toNat := by
  have : ((2 ^ p.toNat : Nat) : Int) = 2 ^ p.toNat := by simp
  omega
theorem tOk_of {p : Int} {T N : Nat} (h1 : 1 ≤ p) (h2 : p ≤ 4) (hN : (N : Int) = 2 ^ p.toNat) (hT : T < 2 ^ N) : tOk p T = true := by
  refine tOk_iff.2 ⟨h1, h2, by omega, ?_⟩
  rw [N_eq hN] at hT
  exact_mod_cast hT
end Go.Proofs.Ytmcdfbjmbelklaa


