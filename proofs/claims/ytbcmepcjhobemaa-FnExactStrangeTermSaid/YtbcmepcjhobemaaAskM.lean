/- Questions: the mathematics, without code. -/
import Derived.Test.YtbcmepcjhobemaaClaimM
namespace Go.Proofs.Ytbcmepcjhobemaa
open Go.RowKit
def inOk (p k : Int) : Bool := decide (0 ≤ k ∧ k < p)
/-- what a person answers: 1 for yes, 0 for no, -1 for what is no question -/
def ansN (p k : Int) (ms : List (Int × Int)) (x : Int) : Int := if termOk p ms && (wOk p x && inOk p k) then (if mayT p (k, ms) x.toNat then 1 else 0) else -1
/-- the marks of a chain of questions -/
def chainL : List Int → List (Int × Int) → List (Int × Int)
  | [], ms => ms
  | k :: r, ms => ctermL (k, chainL r ms)
def chainOk (p : Int) (l : List Int) (ms : List (Int × Int)) : Bool := termOk p ms && termOk p (chainL l ms)
def chainV (p : Int) (l : List Int) (ms : List (Int × Int)) : List (Int × Int) := if chainOk p l ms then chainL l ms else []
def alikeV (p k : Int) (ms : List (Int × Int)) : Bool := termOk p ms && (inOk p k && decide (∀ W, W < 2 ^ p.toNat → mayT p (k, ms) W = mayT p (k, ms) (W ^^^ 1 <<< k.toNat)))
/-- how many people of a list lie in a world -/
def liesN (W : Nat) : List Int → Nat
  | [] => 0
  | k :: r => (if W.testBit k.toNat then 0 else 1) + liesN W r
theorem inOk_iff {p k : Int} : inOk p k = true ↔ 0 ≤ k ∧ k < p := by simp [inOk]
theorem ansN_no {p k x : Int} {ms : List (Int × Int)} (h : (termOk p ms && (wOk p x && inOk p k)) = false) : ansN p k ms x = -1 := by unfold ansN; rw [h]; rfl
theorem ansN_yes {p k x : Int} {ms : List (Int × Int)} (h1 : termOk p ms = true) (h2 : wOk p x = true) (h3 : inOk p k = true) : ansN p k ms x = if mayT p (k, ms) x.toNat then 1 else 0 := by unfold ansN; rw [h1, h2, h3]; rfl
/-! ### tricks -/
theorem cterm_len2 (k : Int) (ms : List (Int × Int)) : (ctermL (k, ms)).length = ms.length + 2 := by simp [ctermL]
/-- a trick is a term exactly if that which asks is a claim -/
theorem trick_ok {p k : Int} {ms : List (Int × Int)} (h : termOk p ms = true) : termOk p (ctermL (k, ms)) = claimOk p (k, ms) := by
  rw [Bool.eq_iff_iff, claimOk_iff]
  constructor
  · intro ht
    have hm := termOk_mkOk ht (0, k) (by simp [ctermL])
    unfold mkOk at hm
    simp at hm
    have hl := (termOk_iff.1 ht).2.1
    rw [cterm_len2] at hl
    dsimp only
    exact ⟨by omega, by omega, h, by omega⟩
  · intro hc
    exact (ctermL_ok (claimOk_iff.2 hc)).1
theorem claim_term {p k : Int} {ms : List (Int × Int)} (h : claimOk p (k, ms) = true) : termOk p ms = true ∧ inOk p k = true := by
  obtain ⟨h1, h2, h3, _⟩ := claimOk_iff.1 h
  exact ⟨h3, inOk_iff.2 ⟨h1, h2⟩⟩
theorem trick_term {p k : Int} {ms : List (Int × Int)} (h : claimOk p (k, ms) = true) : termOk p (ctermL (k, ms)) = true := (ctermL_ok h).1
/-- asked a trick, the person says yes exactly if the term holds -/
theorem trick_holds {p k : Int} {ms : List (Int × Int)} (h : claimOk p (k, ms) = true) (W : Nat) : mayT p (k, ctermL (k, ms)) W = holds W (tmOf p ms) := by
  unfold mayT
  dsimp only
  rw [holds_cterm h]
  unfold mayT
  dsimp only
  cases W.testBit k.toNat <;> cases holds W (tmOf p ms) <;> rfl
theorem trick_ans {p k : Int} {ms : List (Int × Int)} (h : claimOk p (k, ms) = true) {x : Int} (hx : wOk p x = true) : (ansN p k (ctermL (k, ms)) x == 1) = holdsV p ms x := by
  obtain ⟨h1, h2⟩ := claim_term h
  rw [ansN_yes (trick_term h) hx h2, trick_holds h]
  unfold holdsV
  rw [h1, hx]
  cases holds x.toNat (tmOf p ms) <;> rfl
/-! ### answers -/
theorem ans_range (p k : Int) (ms : List (Int × Int)) (x : Int) : ansN p k ms x = -1 ∨ ansN p k ms x = 0 ∨ ansN p k ms x = 1 := by
  unfold ansN
  split
  · split
    · exact .inr (.inr rfl)
    · exact .inr (.inl rfl)
  · exact .inl rfl
theorem ans_cases {p k x : Int} {ms : List (Int × Int)} : (ansN p k ms x = -1 ∧ (termOk p ms && (wOk p x && inOk p k)) = false) ∨ (termOk p ms = true ∧ wOk p x = true ∧ inOk p k = true) := by
  cases h : (termOk p ms && (wOk p x && inOk p k)) with
  | false => exact .inl ⟨ansN_no h, rfl⟩
  | true =>
    simp only [Bool.and_eq_true] at h
    exact .inr ⟨h.1, h.2.1, h.2.2⟩
theorem ans_may {p k x : Int} {ms : List (Int × Int)} (h1 : termOk p ms = true) (h2 : wOk p x = true) (h3 : inOk p k = true) : (ansN p k ms x == 1) = mayT p (k, ms) x.toNat ∧ (claimOk p (k, ms) = true → mayV p (k, ms) x = (ansN p k ms x == 1)) ∧ x.toNat.testBit k.toNat = (holdsV p ms x == (ansN p k ms x == 1)) := by
  have e : (ansN p k ms x == 1) = mayT p (k, ms) x.toNat := by
    rw [ansN_yes h1 h2 h3]
    cases mayT p (k, ms) x.toNat <;> rfl
  refine ⟨e, fun hc => by rw [e]; exact mayV_yes hc h2, ?_⟩
  rw [e]
  unfold holdsV mayT
  dsimp only
  rw [h1, h2]
  cases x.toNat.testBit k.toNat <;> cases holds x.toNat (tmOf p ms) <;> rfl
/-! ### chains -/
theorem chain_len (l : List Int) (ms : List (Int × Int)) : (chainL l ms).length = ms.length + 2 * l.length := by
  induction l with
  | nil => simp [chainL]
  | cons k r ih => rw [chainL, cterm_len2, ih, List.length_cons]; omega
theorem chain_people {l : List Int} {ms : List (Int × Int)} : ∀ k ∈ l, ((0 : Int), k) ∈ chainL l ms := by
  induction l with
  | nil => intro k hk; cases hk
  | cons j r ih =>
    intro k hk
    unfold chainL ctermL
    rcases List.mem_cons.1 hk with rfl | hk
    · simp
    · have := ih k hk
      simp [this]
theorem chain_ok {p : Int} {l : List Int} {ms : List (Int × Int)} (h : termOk p ms = true) : termOk p (chainL l ms) = true ↔ (∀ k ∈ l, 0 ≤ k ∧ k < p) ∧ ms.length + 2 * l.length ≤ 15 := by
  constructor
  · intro ht
    refine ⟨fun k hk => ?_, ?_⟩
    · have hm := termOk_mkOk ht _ (chain_people k hk)
      unfold mkOk at hm
      simp at hm
      omega
    · have := (termOk_iff.1 ht).2.1
      rw [chain_len] at this
      exact this
  · rintro ⟨hk, hl⟩
    induction l with
    | nil => exact h
    | cons k r ih =>
      rw [List.length_cons] at hl
      have hr := ih (fun j hj => hk j (by simp [hj])) (by omega)
      have hkk := hk k (by simp)
      refine (ctermL_ok (claimOk_iff.2 ⟨hkk.1, hkk.2, hr, ?_⟩)).1
      show (chainL r ms).length ≤ 13
      rw [chain_len]; omega
theorem chain_step {p k : Int} {r : List Int} {ms : List (Int × Int)} (h : termOk p ms = true) (ht : termOk p (chainL (k :: r) ms) = true) : claimOk p (k, chainL r ms) = true ∧ termOk p (chainL r ms) = true := by
  obtain ⟨h1, h2⟩ := (chain_ok h).1 ht
  rw [List.length_cons] at h2
  have hr := (chain_ok (l := r) h).2 ⟨fun j hj => h1 j (by simp [hj]), by omega⟩
  have hkk := h1 k (by simp)
  refine ⟨claimOk_iff.2 ⟨hkk.1, hkk.2, hr, ?_⟩, hr⟩
  show (chainL r ms).length ≤ 13
  rw [chain_len]; omega
theorem chain_holds {p : Int} {ms : List (Int × Int)} (h : termOk p ms = true) : ∀ (l : List Int), termOk p (chainL l ms) = true → ∀ W : Nat, holds W (tmOf p (chainL l ms)) = (holds W (tmOf p ms) == decide (liesN W l % 2 = 0)) := by
  intro l
  induction l with
  | nil => intro _ W; simp [chainL, liesN]
  | cons k r ih =>
    intro ht W
    obtain ⟨hc, hr⟩ := chain_step h ht
    rw [show chainL (k :: r) ms = ctermL (k, chainL r ms) from rfl, holds_cterm hc]
    unfold mayT
    dsimp only
    rw [ih hr W, show liesN W (k :: r) = (if W.testBit k.toNat then 0 else 1) + liesN W r from rfl]
    rcases Nat.mod_two_eq_zero_or_one (liesN W r) with hm | hm
    · cases hb : W.testBit k.toNat with
      | true => rw [if_pos rfl, Nat.zero_add, hm]; cases holds W (tmOf p ms) <;> rfl
      | false =>
        rw [if_neg (by simp), hm, show (1 + liesN W r) % 2 = 1 by omega]
        cases holds W (tmOf p ms) <;> rfl
    · cases hb : W.testBit k.toNat with
      | true => rw [if_pos rfl, Nat.zero_add, hm]; cases holds W (tmOf p ms) <;> rfl
      | false =>
        rw [if_neg (by simp), hm, show (1 + liesN W r) % 2 = 0 by omega]
        cases holds W (tmOf p ms) <;> rfl
theorem lies_append (W : Nat) (a b : List Int) : liesN W (a ++ b) = liesN W a + liesN W b := by
  induction a with
  | nil => simp [liesN]
  | cons k r ih => simp [liesN, ih]; omega
theorem lies_rev (W : Nat) (l : List Int) : liesN W l.reverse = liesN W l := by
  induction l with
  | nil => rfl
  | cons k r ih => rw [List.reverse_cons, lies_append, ih]; simp [liesN]; omega
theorem lies_le (W : Nat) (l : List Int) : liesN W l ≤ l.length := by
  induction l with
  | nil => exact Nat.le_refl _
  | cons k r ih => unfold liesN; rw [List.length_cons]; split <;> omega
theorem same_of_holds {p : Int} {a b : List (Int × Int)} (ha : termOk p a = true) (hb : termOk p b = true) (h : ∀ W, holds W (tmOf p a) = holds W (tmOf p b)) : sameV p a b = true := by
  unfold sameV
  rw [ha, hb, tabV_yes ha, tabV_yes hb, show (fun w => holds w (tmOf p a)) = fun w => holds w (tmOf p b) from funext h]
  simp
/-- a chain from the last one to the first one asks the same -/
theorem chain_back {p : Int} {l : List Int} {ms : List (Int × Int)} (h : chainOk p l ms = true) (h2 : chainOk p l.reverse ms = true) : sameV p (chainL l ms) (chainL l.reverse ms) = true := by
  unfold chainOk at h h2
  simp only [Bool.and_eq_true] at h h2
  refine same_of_holds h.2 h2.2 fun W => ?_
  rw [chain_holds h.1 l h.2, chain_holds h.1 l.reverse h2.2, lies_rev]
/-- a trick of a trick is the question itself -/
theorem trick_twice {p k : Int} {ms : List (Int × Int)} (h : claimOk p (k, ms) = true) (h2 : claimOk p (k, ctermL (k, ms)) = true) : sameV p (ctermL (k, ctermL (k, ms))) ms = true := by
  refine same_of_holds (trick_term h2) (claim_term h).1 fun W => ?_
  rw [holds_cterm h2, trick_holds h]
/-! ### who is asked alike -/
theorem flip_testBit (W K : Nat) : (W ^^^ 1 <<< K).testBit K = !W.testBit K := by
  rw [Nat.testBit_xor, Nat.one_shiftLeft, Nat.testBit_two_pow_self]
  cases W.testBit K <;> rfl
theorem matter_bit {p k : Int} {ms : List (Int × Int)} (_ : termOk p ms = true) (hk : inOk p k = true) : (matterN p (tmOf p ms)).testBit k.toNat = matters p (tmOf p ms) k.toNat := by
  obtain ⟨h0, h1⟩ := inOk_iff.1 hk
  unfold matterN
  rw [tabF_bit]
  have : k.toNat < p.toNat := by omega
  simp [this]
theorem alike_trick {p k : Int} {ms : List (Int × Int)} (h : claimOk p (k, ms) = true) : alikeV p k (ctermL (k, ms)) = !matters p (tmOf p ms) k.toNat := by
  obtain ⟨h1, h2⟩ := claim_term h
  unfold alikeV matters
  rw [trick_term h, h2, Bool.true_and, Bool.true_and, ← decide_not, decide_eq_decide]
  constructor
  · rintro hall ⟨W, hW, hne⟩
    have := hall W hW
    rw [trick_holds h, trick_holds h] at this
    exact hne this
  · intro hno W hW
    rw [trick_holds h, trick_holds h]
    cases hd : decide (holds W (tmOf p ms) = holds (W ^^^ 1 <<< k.toNat) (tmOf p ms)) with
    | true => exact of_decide_eq_true hd
    | false => exact absurd ⟨W, hW, of_decide_eq_false hd⟩ hno
theorem alike_matters {p k : Int} {ms : List (Int × Int)} (h : alikeV p k ms = true) : matters p (tmOf p ms) k.toNat = true := by
  unfold alikeV at h
  simp only [Bool.and_eq_true, decide_eq_true_eq] at h
  obtain ⟨_, _, h3⟩ := h
  unfold matters
  rw [decide_eq_true_eq]
  refine ⟨0, Nat.two_pow_pos _, ?_⟩
  have := h3 0 (Nat.two_pow_pos _)
  unfold mayT at this
  dsimp only at this
  rw [flip_testBit] at this
  intro e
  rw [e] at this
  revert this
  cases (0 : Nat).testBit k.toNat <;> cases holds (0 ^^^ 1 <<< k.toNat) (tmOf p ms) <;> simp
end Go.Proofs.Ytbcmepcjhobemaa
