/- Who tests whom: the mathematics, without code. -/
import Derived.Test.YtnkgbolgcmjadaaHeads
namespace Go.Proofs.Ytnkgbolgcmjadaa
open Go.RowKit
/-- what the unit k tells of the unit j -/
def toldE (s : List (List Int)) (k j : Nat) : Int := (s.getD k []).getD j 0
def rowOk (n k : Nat) (r : List Int) : Bool := decide (r.length = n) && (List.range n).all fun j => decide (0 ≤ r.getD j 0 ∧ r.getD j 0 ≤ 1) && decide (j = k → r.getD j 0 = 0)
def synOk (s : List (List Int)) : Bool := (List.range s.length).all (fun k => rowOk s.length k (s.getD k [])) && decide (1 ≤ s.length ∧ s.length ≤ 5)
def bitI (X j : Nat) : Int := if X.testBit j then 1 else 0
/-- whether what the unit k tells fits the set -/
def fitsK (s : List (List Int)) (X k : Nat) : Bool := X.testBit k || (List.range s.length).all fun j => decide (j = k) || decide (toldE s k j = bitI X j)
def fitsN (s : List (List Int)) (X : Nat) : Bool := (List.range s.length).all (fitsK s X)
def fitsV (s : List (List Int)) (x : Int) : Bool := synOk s && (decide (0 ≤ x ∧ x < 2 ^ s.length) && fitsN s x.toNat)
def setsF (s : List (List Int)) (m : Int) (N : Nat) : List Nat := (List.range N).filter fun X => decide ((heads X : Int) ≤ m) && fitsN s X
def setsN (s : List (List Int)) (m : Int) : List Nat := if synOk s then setsF s m (2 ^ s.length) else []
def sureN (n : Int) : Int := if 1 ≤ n ∧ n ≤ 5 then (n - 1) / 2 else -1
def onlyFOk (s : List (List Int)) : Bool := decide ((setsN s (sureN s.length)).length = 1)
def onlyFN (s : List (List Int)) : Int := if onlyFOk s then ((setsN s (sureN s.length)).getD 0 0 : Int) else 0
def votesF (s : List (List Int)) (u : Nat) : Nat → Int
  | 0 => 0
  | k + 1 => votesF s u k + toldE s k u
def votesN (s : List (List Int)) (u : Int) : Int := if synOk s && decide (0 ≤ u ∧ u < s.length) then votesF s u.toNat s.length else -1
theorem rowOk_iff {n k : Nat} {r : List Int} : rowOk n k r = true ↔ r.length = n ∧ ∀ j, j < n → (0 ≤ r.getD j 0 ∧ r.getD j 0 ≤ 1) ∧ (j = k → r.getD j 0 = 0) := by
  unfold rowOk
  rw [Bool.and_eq_true, decide_eq_true_eq, List.all_eq_true]
  constructor
  · rintro ⟨h1, h2⟩
    refine ⟨h1, fun j hj => ?_⟩
    have := h2 j (List.mem_range.2 hj)
    rw [Bool.and_eq_true, decide_eq_true_eq, decide_eq_true_eq] at this
    exact this
  · rintro ⟨h1, h2⟩
    refine ⟨h1, fun j hj => ?_⟩
    rw [Bool.and_eq_true, decide_eq_true_eq, decide_eq_true_eq]
    exact h2 j (List.mem_range.1 hj)
theorem synOk_iff {s : List (List Int)} : synOk s = true ↔ (∀ k, k < s.length → (s.getD k []).length = s.length ∧ ∀ j, j < s.length → (0 ≤ toldE s k j ∧ toldE s k j ≤ 1) ∧ (j = k → toldE s k j = 0)) ∧ 1 ≤ s.length ∧ s.length ≤ 5 := by
  unfold synOk
  rw [Bool.and_eq_true, decide_eq_true_eq, List.all_eq_true]
  constructor
  · rintro ⟨h1, h2⟩
    exact ⟨fun k hk => rowOk_iff.1 (h1 k (List.mem_range.2 hk)), h2⟩
  · rintro ⟨h1, h2⟩
    exact ⟨fun k hk => rowOk_iff.2 (h1 k (List.mem_range.1 hk)), h2⟩
theorem fitsK_iff {s : List (List Int)} {X k : Nat} : fitsK s X k = true ↔ (X.testBit k = false → ∀ j, j < s.length → j ≠ k → toldE s k j = bitI X j) := by
  unfold fitsK
  cases h : X.testBit k with
  | true => simp
  | false =>
    rw [Bool.false_or, List.all_eq_true]
    constructor
    · intro h1 _ j hj hne
      have := h1 j (List.mem_range.2 hj)
      rw [decide_eq_false hne, Bool.false_or, decide_eq_true_eq] at this
      exact this
    · intro h1 j hj
      by_cases hne : j = k
      · rw [decide_eq_true hne]; rfl
      · rw [decide_eq_true (h1 rfl j (List.mem_range.1 hj) hne), Bool.or_true]
theorem fitsN_iff {s : List (List Int)} {X : Nat} : fitsN s X = true ↔ ∀ k, k < s.length → X.testBit k = false → ∀ j, j < s.length → j ≠ k → toldE s k j = bitI X j := by
  unfold fitsN
  rw [List.all_eq_true]
  constructor
  · intro h k hk; exact fitsK_iff.1 (h k (List.mem_range.2 hk))
  · intro h k hk; exact fitsK_iff.2 (h k (List.mem_range.1 hk))
theorem heads_count {n X : Nat} (hn : n ≤ 32) (hX : X < 2 ^ n) : heads X = (List.range n).countP fun k => X.testBit k := by
  rw [← wl_heads9 n X hn hX]
  unfold wl
  rw [← List.countP_eq_length_filter]
theorem both_out {n X Y : Nat} (hn : n ≤ 32) (hX : X < 2 ^ n) (hY : Y < 2 ^ n) (h : heads X + heads Y < n) : ∃ k, k < n ∧ X.testBit k = false ∧ Y.testBit k = false := by
  rw [heads_count hn hX, heads_count hn hY] at h
  refine Classical.byContradiction fun hne => ?_
  have hall : ∀ k, k < n → X.testBit k = true ∨ Y.testBit k = true := fun k hk => by
    cases h1 : X.testBit k with
    | true => exact .inl rfl
    | false =>
      cases h2 : Y.testBit k with
      | true => exact .inr rfl
      | false => exact absurd ⟨k, hk, h1, h2⟩ hne
  have hc : ∀ l : List Nat, (∀ k ∈ l, k < n) → l.length ≤ (l.countP fun k => X.testBit k) + l.countP fun k => Y.testBit k := by
    intro l
    induction l with
    | nil => intro _; exact Nat.zero_le _
    | cons a r ih =>
      intro hl
      have := ih (fun k hk => hl k (by simp [hk]))
      rw [List.length_cons, List.countP_cons, List.countP_cons]
      rcases hall a (hl a (by simp)) with h1 | h1
      · rw [h1, if_pos rfl]; omega
      · rw [h1, if_pos rfl]; omega
  have := hc (List.range n) (fun k hk => List.mem_range.1 hk)
  rw [List.length_range] at this
  omega
theorem bitI_inj {X Y j : Nat} (h : bitI X j = bitI Y j) : X.testBit j = Y.testBit j := by
  unfold bitI at h
  cases h1 : X.testBit j <;> cases h2 : Y.testBit j <;> rw [h1, h2] at h <;> first | rfl | (simp at h)
/-- fewer than half are always known -/
theorem fits_unique {s : List (List Int)} {X Y : Nat} (hn : s.length ≤ 32) (hX : X < 2 ^ s.length) (hY : Y < 2 ^ s.length) (fX : fitsN s X = true) (fY : fitsN s Y = true) (h : heads X + heads Y < s.length) : X = Y := by
  obtain ⟨k, hk, h1, h2⟩ := both_out hn hX hY h
  refine Nat.eq_of_testBit_eq fun j => ?_
  by_cases hj : j < s.length
  · by_cases hjk : j = k
    · rw [hjk, h1, h2]
    · have a1 := fitsN_iff.1 fX k hk h1 j hj hjk
      have a2 := fitsN_iff.1 fY k hk h2 j hj hjk
      exact bitI_inj (a1.symm.trans a2)
  · rw [Nat.testBit_lt_two_pow (Nat.lt_of_lt_of_le hX (Nat.pow_le_pow_right (by decide) (by omega))), Nat.testBit_lt_two_pow (Nat.lt_of_lt_of_le hY (Nat.pow_le_pow_right (by decide) (by omega)))]
theorem sure_half {n : Nat} (h1 : 1 ≤ n) (h5 : n ≤ 5) : 0 ≤ sureN n ∧ 2 * sureN n < n ∧ (n : Int) ≤ 2 * (sureN n + 1) := by
  unfold sureN
  rw [if_pos (by omega)]
  omega
theorem setsF_mem {s : List (List Int)} {m : Int} {N X : Nat} : X ∈ setsF s m N ↔ X < N ∧ (heads X : Int) ≤ m ∧ fitsN s X = true := by
  unfold setsF
  rw [List.mem_filter, List.mem_range, Bool.and_eq_true, decide_eq_true_eq]
theorem setsN_mem {s : List (List Int)} {m : Int} (h : synOk s = true) {X : Nat} : X ∈ setsN s m ↔ X < 2 ^ s.length ∧ (heads X : Int) ≤ m ∧ fitsN s X = true := by
  unfold setsN
  rw [if_pos h, setsF_mem]
theorem setsF_succ (s : List (List Int)) (m : Int) (N : Nat) : setsF s m (N + 1) = setsF s m N ++ if decide ((heads N : Int) ≤ m) && fitsN s N then [N] else [] := by
  unfold setsF
  rw [List.range_succ, List.filter_append]
  congr 1
  simp only [List.filter_cons, List.filter_nil]
/-- at most one set of fewer than half fits -/
theorem sure_most {s : List (List Int)} : (setsN s (sureN s.length)).length ≤ 1 := by
  cases h : synOk s with
  | false => unfold setsN; rw [h]; simp
  | true =>
    obtain ⟨_, h1, h5⟩ := synOk_iff.1 h
    obtain ⟨_, hh, _⟩ := sure_half h1 h5
    have hnd : (setsN s (sureN s.length)).Nodup := by
      unfold setsN setsF
      rw [if_pos h]
      exact List.Pairwise.filter _ List.nodup_range
    have hall : ∀ X ∈ setsN s (sureN s.length), ∀ Y ∈ setsN s (sureN s.length), X = Y := fun X hX Y hY => by
      obtain ⟨a1, a2, a3⟩ := (setsN_mem h).1 hX
      obtain ⟨b1, b2, b3⟩ := (setsN_mem h).1 hY
      exact fits_unique (by omega) a1 b1 a3 b3 (by omega)
    generalize setsN s (sureN s.length) = l at *
    match l, hnd, hall with
    | [], _, _ => simp
    | [_], _, _ => simp
    | a :: b :: r, hnd, hall =>
      have := hall a (by simp) b (by simp)
      rw [List.nodup_cons] at hnd
      exact absurd (by rw [this]; simp) hnd.1
/-! ### votes -/
theorem votes_low {s : List (List Int)} {X u : Nat} (hX : fitsN s X = true) (hs : synOk s = true) (hu : u < s.length) (hb : X.testBit u = true) : ∀ N, N ≤ s.length → (((List.range N).countP fun k => !X.testBit k : Nat) : Int) ≤ votesF s u N
  | 0, _ => by simp [votesF]
  | N + 1, h => by
    have ih := votes_low hX hs hu hb N (by omega)
    have h0 := (((synOk_iff.1 hs).1 N (by omega)).2 u hu).1.1
    rw [votesF, List.range_succ, List.countP_append]
    cases hN : X.testBit N with
    | true => simp [hN]; omega
    | false =>
      have e := fitsN_iff.1 hX N (by omega) hN u hu (fun e => by rw [e, hN] at hb; cases hb)
      rw [e]
      unfold bitI
      rw [hb]
      simp [hN]; omega
theorem votes_high {s : List (List Int)} {X u : Nat} (hX : fitsN s X = true) (hs : synOk s = true) (hu : u < s.length) (hb : X.testBit u = false) : ∀ N, N ≤ s.length → votesF s u N ≤ (((List.range N).countP fun k => X.testBit k : Nat) : Int)
  | 0, _ => by simp [votesF]
  | N + 1, h => by
    have ih := votes_high hX hs hu hb N (by omega)
    obtain ⟨⟨_, h1⟩, h0⟩ := ((synOk_iff.1 hs).1 N (by omega)).2 u hu
    rw [votesF, List.range_succ, List.countP_append]
    cases hN : X.testBit N with
    | true => simp [hN]; omega
    | false =>
      have e : toldE s N u = 0 := by
        by_cases hne : u = N
        · exact h0 hne
        · rw [fitsN_iff.1 hX N (by omega) hN u hu hne]
          unfold bitI
          rw [hb]; rfl
      rw [e]
      simp [hN]; omega
theorem votes_less {s : List (List Int)} {u : Nat} (hs : synOk s = true) (hu : u < s.length) : ∀ N, N ≤ s.length → 0 ≤ votesF s u N ∧ votesF s u N ≤ (N : Int) - if u < N then 1 else 0
  | 0, _ => by simp [votesF]
  | N + 1, h => by
    obtain ⟨ih0, ih⟩ := votes_less hs hu N (by omega)
    obtain ⟨⟨h00, h1⟩, h0⟩ := ((synOk_iff.1 hs).1 N (by omega)).2 u hu
    rw [votesF]
    by_cases hne : u = N
    · have := h0 hne
      rw [if_neg (by omega)] at ih
      rw [if_pos (by omega)]
      omega
    · by_cases hlt : u < N
      · rw [if_pos hlt] at ih
        rw [if_pos (by omega)]
        omega
      · rw [if_neg hlt] at ih
        rw [if_neg (by omega)]
        omega
theorem count_not (X n : Nat) : ((List.range n).countP fun k => X.testBit k) + ((List.range n).countP fun k => !X.testBit k) = n := by
  induction n with
  | zero => rfl
  | succ n ih =>
    rw [List.range_succ, List.countP_append, List.countP_append]
    cases h : X.testBit n <;> simp [h] <;> omega
/-! ### made syndromes -/
/-- how many words have been used ahead of the entry (k, j) -/
def usedW (n X k j : Nat) : Nat := ((List.range k).countP fun i => X.testBit i) * (n - 1) + if X.testBit k then (if k < j then j - 1 else j) else 0
def madeE (n X w k j : Nat) : Int := if j = k then 0 else if X.testBit k then ((w / 2 ^ usedW n X k j % 2 : Nat) : Int) else bitI X j
def madeRow (n X w k : Nat) : List Int := (List.range n).map (madeE n X w k)
def madeL (n X w : Nat) : List (List Int) := (List.range n).map (madeRow n X w)
def madeOk (n x w : Int) : Bool := decide (1 ≤ n ∧ n ≤ 5) && (decide (0 ≤ x ∧ x < 2 ^ n.toNat) && decide (0 ≤ w))
def madeV (n x w : Int) : List (List Int) := if madeOk n x w then madeL n.toNat x.toNat w.toNat else []
theorem madeL_len (n X w : Nat) : (madeL n X w).length = n := by simp [madeL]
theorem madeRow_len (n X w k : Nat) : (madeRow n X w k).length = n := by simp [madeRow]
theorem madeL_get {n X w k : Nat} (hk : k < n) : (madeL n X w).getD k [] = madeRow n X w k := by simp [madeL, List.getD, hk]
theorem madeRow_get {n X w k j : Nat} (hj : j < n) : (madeRow n X w k).getD j 0 = madeE n X w k j := by simp [madeRow, List.getD, hj]
theorem madeE_told {n X w k j : Nat} (hk : k < n) (hj : j < n) : toldE (madeL n X w) k j = madeE n X w k j := by
  unfold toldE
  rw [madeL_get hk, madeRow_get hj]
theorem bitI_range (X j : Nat) : 0 ≤ bitI X j ∧ bitI X j ≤ 1 := by
  unfold bitI
  cases X.testBit j <;> decide
theorem madeE_range (n X w k j : Nat) : (0 ≤ madeE n X w k j ∧ madeE n X w k j ≤ 1) ∧ (j = k → madeE n X w k j = 0) := by
  unfold madeE
  by_cases h : j = k
  · rw [if_pos h]; exact ⟨⟨by omega, by omega⟩, fun _ => rfl⟩
  · rw [if_neg h]
    refine ⟨?_, fun e => absurd e h⟩
    split
    · omega
    · exact bitI_range X j
theorem made_syn {n X w : Nat} (h1 : 1 ≤ n) (h5 : n ≤ 5) : synOk (madeL n X w) = true := by
  rw [synOk_iff, madeL_len]
  refine ⟨fun k hk => ⟨by rw [madeL_get hk, madeRow_len], fun j hj => ?_⟩, h1, h5⟩
  rw [madeE_told hk hj]
  exact madeE_range n X w k j
theorem made_fits (n X w : Nat) : fitsN (madeL n X w) X = true := by
  rw [fitsN_iff, madeL_len]
  intro k hk hb j hj hne
  rw [madeE_told hk hj]
  unfold madeE
  rw [if_neg hne, hb]; rfl
/-- in the same row the next entry of a broken unit takes the next word -/
theorem used_next {n X k j : Nat} (hb : X.testBit k = true) (hne : j ≠ k) : usedW n X k (j + 1) = usedW n X k j + 1 := by
  unfold usedW
  rw [hb, if_pos rfl, if_pos rfl]
  by_cases h : k < j
  · rw [if_pos h, if_pos (by omega)]; omega
  · rw [if_neg h, if_neg (by omega)]; omega
theorem used_same {n X k : Nat} : usedW n X k (k + 1) = usedW n X k k := by
  unfold usedW
  rw [if_pos (show k < k + 1 by omega), if_neg (show ¬ k < k by omega)]
  rfl
theorem used_right {n X k j : Nat} (hb : X.testBit k = false) : usedW n X k j = usedW n X k 0 := by
  unfold usedW
  rw [hb]; rfl
theorem used_row {n X k : Nat} (hk : k < n) : usedW n X k n = usedW n X (k + 1) 0 := by
  unfold usedW
  rw [List.range_succ, List.countP_append]
  have e0 : (if X.testBit (k + 1) then (if k + 1 < 0 then 0 - 1 else 0) else 0) = 0 := by split <;> rfl
  rw [e0]
  cases hb : X.testBit k with
  | true =>
    rw [if_pos rfl, if_pos hk]
    simp [hb, Nat.add_mul]
  | false => simp [hb]
/-- a made syndrome of few broken units is found again -/
theorem made_only {n X w : Nat} (h1 : 1 ≤ n) (h5 : n ≤ 5) (hX : X < 2 ^ n) (hh : (heads X : Int) ≤ sureN n) : onlyFOk (madeL n X w) = true ∧ onlyFN (madeL n X w) = X := by
  have hs := made_syn (X := X) (w := w) h1 h5
  have hm : X ∈ setsN (madeL n X w) (sureN (madeL n X w).length) := (setsN_mem hs).2 (by rw [madeL_len]; exact ⟨hX, hh, made_fits n X w⟩)
  have h1' := sure_most (s := madeL n X w)
  have hl : (setsN (madeL n X w) (sureN (madeL n X w).length)).length = 1 := by
    have := List.length_pos_of_mem hm
    omega
  have ho : onlyFOk (madeL n X w) = true := by unfold onlyFOk; rw [hl]; rfl
  refine ⟨ho, ?_⟩
  unfold onlyFN
  rw [if_pos ho]
  obtain ⟨a, ha⟩ := List.length_eq_one_iff.1 hl
  rw [ha] at hm ⊢
  rw [List.mem_singleton.1 hm]; rfl
end Go.Proofs.Ytnkgbolgcmjadaa
