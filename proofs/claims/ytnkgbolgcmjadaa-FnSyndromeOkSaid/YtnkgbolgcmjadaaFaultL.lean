/- Who tests whom: the mathematics of the laws. -/
import Derived.Test.YtnkgbolgcmjadaaFaultM
namespace Go.Proofs.Ytnkgbolgcmjadaa
open Go.RowKit
/-- the units from the last one to the first one -/
def backR (s : List (List Int)) : List (List Int) := (s.map List.reverse).reverse
theorem backR_len (s : List (List Int)) : (backR s).length = s.length := by simp [backR]
theorem backR_back (s : List (List Int)) : backR (backR s) = s := by
  unfold backR
  rw [List.map_reverse, List.reverse_reverse, List.map_map]
  have : (List.reverse ∘ List.reverse : List Int → List Int) = id := by funext l; simp
  rw [this, List.map_id]
theorem backR_row {s : List (List Int)} {k : Nat} (hk : k < s.length) : (backR s).getD k [] = (s.getD (s.length - 1 - k) []).reverse := by
  unfold backR
  have h1 : s.length - 1 - k < s.length := by omega
  simp only [List.getD, List.getElem?_reverse (show k < (s.map List.reverse).length by simpa using hk), List.length_map, List.getElem?_map]
  rw [List.getElem?_eq_getElem h1]
  rfl
theorem rev_getD (r : List Int) {j : Nat} (hj : j < r.length) : r.reverse.getD j 0 = r.getD (r.length - 1 - j) 0 := by
  simp only [List.getD, List.getElem?_reverse hj]
theorem backR_ok1 {s : List (List Int)} (h : synOk s = true) : synOk (backR s) = true := by
  obtain ⟨h1, h2, h3⟩ := synOk_iff.1 h
  rw [synOk_iff, backR_len]
  refine ⟨fun k hk => ?_, h2, h3⟩
  have hk' : s.length - 1 - k < s.length := by omega
  obtain ⟨a1, a2⟩ := h1 _ hk'
  refine ⟨by rw [backR_row hk, List.length_reverse, a1], fun j hj => ?_⟩
  have e : toldE (backR s) k j = toldE s (s.length - 1 - k) (s.length - 1 - j) := by
    unfold toldE
    rw [backR_row hk, rev_getD _ (by rw [a1]; exact hj), a1]
  rw [e]
  obtain ⟨b1, b2⟩ := a2 (s.length - 1 - j) (by omega)
  exact ⟨b1, fun hjk => b2 (by omega)⟩
theorem backR_ok (s : List (List Int)) : synOk (backR s) = synOk s := by
  rw [Bool.eq_iff_iff]
  exact ⟨fun h => by have := backR_ok1 h; rwa [backR_back] at this, backR_ok1⟩
theorem syn_zero2 : synOk [[0, 0], [0, 0]] = true := by decide
theorem syn_none : synOk [] = false := by decide
theorem all_bit {n j : Nat} (h : j < n) : (2 ^ n - 1).testBit j = true := by simp [Nat.testBit_two_pow_sub_one, h]
theorem fits_every {s : List (List Int)} : fitsN s (2 ^ s.length - 1) = true := by
  rw [fitsN_iff]
  intro k hk hb
  rw [all_bit hk] at hb; cases hb
theorem but_bit {n j : Nat} (h1 : 1 ≤ n) (h5 : n ≤ 5) (h : j < n) : (2 ^ n - 2).testBit j = decide (j ≠ 0) := by
  have hn : n = 1 ∨ n = 2 ∨ n = 3 ∨ n = 4 ∨ n = 5 := by omega
  have hj : j = 0 ∨ j = 1 ∨ j = 2 ∨ j = 3 ∨ j = 4 := by omega
  rcases hn with rfl | rfl | rfl | rfl | rfl <;> rcases hj with rfl | rfl | rfl | rfl | rfl <;> first | omega | decide
/-- all but the first one are broken: it fits just if the first one tells that all others are -/
theorem fits_but {s : List (List Int)} (h1 : 1 ≤ s.length) (h5 : s.length ≤ 5) : fitsN s (2 ^ s.length - 2) = true ↔ ∀ j, 1 ≤ j → j < s.length → toldE s 0 j = 1 := by
  rw [fitsN_iff]
  constructor
  · intro h j hj1 hj
    have := h 0 (by omega) (by rw [but_bit h1 h5 (by omega)]; rfl) j hj (by omega)
    rw [this]
    unfold bitI
    rw [but_bit h1 h5 hj, decide_eq_true (by omega)]; rfl
  · intro h k hk hb j hj hne
    rw [but_bit h1 h5 hk] at hb
    have hk0 : k = 0 := by
      by_cases e : k = 0
      · exact e
      · rw [decide_eq_true e] at hb; cases hb
    subst hk0
    rw [h j (by omega) hj]
    unfold bitI
    rw [but_bit h1 h5 hj, decide_eq_true (by omega)]; rfl
/-! ### sets in order -/
theorem setsF_asc (s : List (List Int)) (m : Int) (N : Nat) : (setsF s m N).Pairwise (· < ·) := by
  unfold setsF
  exact List.Pairwise.filter _ List.pairwise_lt_range
theorem setsN_asc (s : List (List Int)) (m : Int) : (setsN s m).Pairwise (· < ·) := by
  unfold setsN
  split
  · exact setsF_asc s m _
  · exact List.Pairwise.nil
theorem nums_asc {l : List Nat} (h : l.Pairwise (· < ·)) : ∀ j, j + 1 < (nums l).length → (nums l).getD j 0 < (nums l).getD (j + 1) 0 := fun j hj => by
  have hl : (nums l).length = l.length := by simp [nums]
  rw [hl] at hj
  have := List.pairwise_iff_getElem.1 h j (j + 1) (by omega) hj (by omega)
  simp only [List.getD, nums, List.getElem?_map, List.getElem?_eq_getElem (show j < l.length by omega), List.getElem?_eq_getElem hj, Option.map_some, Option.getD_some]
  omega
theorem nums_mem {l : List Nat} {X : Nat} : ((X : Int) ∈ nums l) ↔ X ∈ l := by
  unfold nums
  rw [List.mem_map]
  constructor
  · rintro ⟨a, ha, e⟩; rw [Int.ofNat_inj.1 e] at ha; exact ha
  · exact fun h => ⟨X, h, rfl⟩
theorem sets_has {s : List (List Int)} {m : Int} (hs : synOk s = true) {X : Nat} (hX : X < 2 ^ s.length) : decide ((X : Int) ∈ nums (setsN s m)) = (fitsN s X && decide ((heads X : Int) ≤ m)) := by
  rw [Bool.eq_iff_iff, decide_eq_true_eq, nums_mem, setsN_mem hs, Bool.and_eq_true, decide_eq_true_eq]
  exact ⟨fun h => ⟨h.2.2, h.2.1⟩, fun h => ⟨hX, h.2, h.1⟩⟩
theorem sets_grow {s : List (List Int)} {m : Int} {X : Nat} (h : X ∈ setsN s m) : X ∈ setsN s (m + 1) := by
  cases hs : synOk s with
  | false => unfold setsN at h; rw [hs] at h; simp at h
  | true =>
    obtain ⟨h1, h2, h3⟩ := (setsN_mem hs).1 h
    exact (setsN_mem hs).2 ⟨h1, by omega, h3⟩
theorem sets_len (s : List (List Int)) (m : Int) : (setsN s m).length ≤ (setsN s (m + 1)).length := by
  unfold setsN
  split
  · unfold setsF
    rw [← List.countP_eq_length_filter, ← List.countP_eq_length_filter]
    refine List.countP_mono_left fun X _ h => ?_
    rw [Bool.and_eq_true, decide_eq_true_eq] at h ⊢
    exact ⟨by omega, h.2⟩
  · exact Nat.le_refl _
theorem sets_small (s : List (List Int)) (m : Int) : (setsN s m).length ≤ 32 := by
  cases hs : synOk s with
  | false => unfold setsN; rw [hs]; simp
  | true =>
    obtain ⟨_, h1, h5⟩ := synOk_iff.1 hs
    unfold setsN setsF
    rw [if_pos hs]
    have := List.length_filter_le (fun X => decide ((heads X : Int) ≤ m) && fitsN s X) (List.range (2 ^ s.length))
    rw [List.length_range] at this
    have h32 : 2 ^ s.length ≤ 2 ^ 5 := Nat.pow_le_pow_right (by decide) h5
    omega
theorem only_set {s : List (List Int)} (h : onlyFOk s = true) : synOk s = true ∧ ∃ X, setsN s (sureN s.length) = [X] ∧ onlyFN s = X ∧ X < 2 ^ s.length ∧ (heads X : Int) ≤ sureN s.length ∧ fitsN s X = true := by
  have hl : (setsN s (sureN s.length)).length = 1 := by unfold onlyFOk at h; exact of_decide_eq_true h
  have hs : synOk s = true := by
    cases hs : synOk s with
    | true => rfl
    | false => unfold setsN at hl; rw [hs] at hl; simp at hl
  obtain ⟨X, hX⟩ := List.length_eq_one_iff.1 hl
  obtain ⟨h1, h2, h3⟩ := (setsN_mem hs).1 (show X ∈ setsN s (sureN s.length) by rw [hX]; simp)
  refine ⟨hs, X, hX, ?_, h1, h2, h3⟩
  unfold onlyFN
  rw [if_pos h, hX]; rfl
theorem only_no {s : List (List Int)} (h : onlyFOk s = false) : onlyFN s = 0 ∧ setsN s (sureN s.length) = [] := by
  refine ⟨by unfold onlyFN; rw [if_neg (by rw [h]; simp)], ?_⟩
  have h1 := sure_most (s := s)
  have h2 : (setsN s (sureN s.length)).length ≠ 1 := by unfold onlyFOk at h; exact of_decide_eq_false h
  exact List.eq_nil_of_length_eq_zero (by omega)
/-! ### votes -/
theorem votes_range {s : List (List Int)} {u : Int} (h : votesN s u < 0) : votesN s u = -1 := by
  unfold votesN at h ⊢
  split
  · rename_i hc
    rw [if_pos hc] at h
    rw [Bool.and_eq_true, decide_eq_true_eq] at hc
    have := (votes_less (u := u.toNat) hc.1 (by omega) s.length (Nat.le_refl _)).1
    omega
  · rfl
theorem votes_yes {s : List (List Int)} {u : Int} (h : ¬ votesN s u < 0) : synOk s = true ∧ ∃ U : Nat, u = U ∧ U < s.length ∧ votesN s u = votesF s U s.length := by
  unfold votesN at h ⊢
  split
  · rename_i hc
    rw [Bool.and_eq_true, decide_eq_true_eq] at hc
    obtain ⟨U, rfl⟩ := Int.eq_ofNat_of_zero_le hc.2.1
    exact ⟨hc.1, U, rfl, by omega, by rw [Int.toNat_natCast]⟩
  · rename_i hc
    rw [if_neg hc] at h
    exact absurd (by decide) h
theorem votes_few {s : List (List Int)} {U : Nat} (hs : synOk s = true) (hU : U < s.length) : votesF s U s.length < s.length := by
  have := (votes_less hs hU s.length (Nat.le_refl _)).2
  rw [if_pos hU] at this
  omega
theorem votes_in {s : List (List Int)} {X U : Nat} (hs : synOk s = true) (h5 : s.length ≤ 32) (hX : X < 2 ^ s.length) (hf : fitsN s X = true) (hU : U < s.length) (hb : X.testBit U = true) : (s.length : Int) - heads X ≤ votesF s U s.length := by
  have h1 := votes_low hf hs hU hb s.length (Nat.le_refl _)
  have h2 := count_not X s.length
  rw [heads_count h5 hX]
  omega
theorem votes_out {s : List (List Int)} {X U : Nat} (hs : synOk s = true) (h5 : s.length ≤ 32) (hX : X < 2 ^ s.length) (hf : fitsN s X = true) (hU : U < s.length) (hb : X.testBit U = false) : votesF s U s.length ≤ heads X := by
  have h1 := votes_high hf hs hU hb s.length (Nat.le_refl _)
  rw [heads_count h5 hX]
  exact h1
end Go.Proofs.Ytnkgbolgcmjadaa
