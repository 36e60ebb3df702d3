/- Strange words: the mathematics, without code. -/
import Derived.Test.YtbcmepcjhobemaaAskM
namespace Go.Proofs.Ytbcmepcjhobemaa
open Go.RowKit
/-- there are people besides the last one, and a person is one of these -/
def l8V (p k : Int) : Bool := decide (2 ≤ p ∧ p ≤ 4) && decide (0 ≤ k ∧ k ≤ p - 2)
/-- whether the strange word is said in a world -/
def wordT (p k : Int) (ms : List (Int × Int)) (W : Nat) : Bool := mayT p (k, ms) W == W.testBit (p - 1).toNat
def wordN (p k : Int) (ms : List (Int × Int)) (x : Int) : Int := if l8V p k && (termOk p ms && wOk p x) then (if wordT p k ms x.toNat then 1 else 0) else -1
def strL (p k : Int) (ms : List (Int × Int)) : List (Int × Int) := ctermL (k, ctermL (p - 1, ms))
def strOk (p k : Int) (ms : List (Int × Int)) : Bool := l8V p k && (termOk p ms && termOk p (strL p k ms))
def strV (p k : Int) (ms : List (Int × Int)) : List (Int × Int) := if strOk p k ms then strL p k ms else []
def wtabN (p k : Int) (ms : List (Int × Int)) : Nat := tabF (2 ^ p.toNat) (wordT p k ms)
def wtabV (p k : Int) (ms : List (Int × Int)) : Int := if l8V p k && termOk p ms then (wtabN p k ms : Int) else -1
theorem l8V_iff {p k : Int} : l8V p k = true ↔ 2 ≤ p ∧ p ≤ 4 ∧ 0 ≤ k ∧ k ≤ p - 2 := by
  unfold l8V
  rw [Bool.and_eq_true, decide_eq_true_eq, decide_eq_true_eq]
  constructor
  · rintro ⟨⟨h1, h2⟩, h3, h4⟩; exact ⟨h1, h2, h3, h4⟩
  · rintro ⟨h1, h2, h3, h4⟩; exact ⟨⟨h1, h2⟩, h3, h4⟩
theorem l8V_in {p k : Int} (h : l8V p k = true) : inOk p k = true ∧ inOk p (p - 1) = true := by
  obtain ⟨h1, h2, h3, h4⟩ := l8V_iff.1 h
  exact ⟨inOk_iff.2 ⟨h3, by omega⟩, inOk_iff.2 ⟨by omega, by omega⟩⟩
theorem wordN_no {p k x : Int} {ms : List (Int × Int)} (h : (l8V p k && (termOk p ms && wOk p x)) = false) : wordN p k ms x = -1 := by unfold wordN; rw [h]; rfl
theorem wordN_yes {p k x : Int} {ms : List (Int × Int)} (h1 : l8V p k = true) (h2 : termOk p ms = true) (h3 : wOk p x = true) : wordN p k ms x = if wordT p k ms x.toNat then 1 else 0 := by unfold wordN; rw [h1, h2, h3]; rfl
theorem wtabV_no {p k : Int} {ms : List (Int × Int)} (h : (l8V p k && termOk p ms) = false) : wtabV p k ms = -1 := by unfold wtabV; rw [h]; rfl
theorem wtabV_yes {p k : Int} {ms : List (Int × Int)} (h1 : l8V p k = true) (h2 : termOk p ms = true) : wtabV p k ms = (wtabN p k ms : Int) := by unfold wtabV; rw [h1, h2]; rfl
theorem strL_len (p k : Int) (ms : List (Int × Int)) : (strL p k ms).length = ms.length + 4 := by unfold strL; rw [cterm_len2, cterm_len2]
theorem strL_eq (p k : Int) (ms : List (Int × Int)) : strL p k ms = [(0, k), (0, p - 1)] ++ ms ++ [(5, 0), (5, 0)] := by simp [strL, ctermL]
/-- a strange question is a term exactly if it is short enough -/
theorem str_ok {p k : Int} {ms : List (Int × Int)} (h : l8V p k = true) (ht : termOk p ms = true) : termOk p (strL p k ms) = true ↔ ms.length ≤ 11 := by
  obtain ⟨h1, h2, h3, h4⟩ := l8V_iff.1 h
  constructor
  · intro hs
    have := (termOk_iff.1 hs).2.1
    rw [strL_len] at this
    omega
  · intro hl
    have hc : claimOk p (p - 1, ms) = true := claimOk_iff.2 ⟨by dsimp only; omega, by dsimp only; omega, ht, by dsimp only; omega⟩
    refine (ctermL_ok (claimOk_iff.2 ⟨h3, by dsimp only; omega, trick_term hc, ?_⟩)).1
    show (ctermL (p - 1, ms)).length ≤ 13
    rw [cterm_len2]; omega
theorem str_parts {p k : Int} {ms : List (Int × Int)} (h : strOk p k ms = true) : l8V p k = true ∧ termOk p ms = true ∧ termOk p (strL p k ms) = true ∧ claimOk p (p - 1, ms) = true ∧ claimOk p (k, ctermL (p - 1, ms)) = true := by
  unfold strOk at h
  simp only [Bool.and_eq_true] at h
  obtain ⟨h8, ht, hs⟩ := h
  have hl := (str_ok h8 ht).1 hs
  obtain ⟨h1, h2, h3, h4⟩ := l8V_iff.1 h8
  have hc : claimOk p (p - 1, ms) = true := claimOk_iff.2 ⟨by dsimp only; omega, by dsimp only; omega, ht, by dsimp only; omega⟩
  refine ⟨h8, ht, hs, hc, claimOk_iff.2 ⟨h3, by dsimp only; omega, trick_term hc, ?_⟩⟩
  show (ctermL (p - 1, ms)).length ≤ 13
  rw [cterm_len2]; omega
theorem str_tm {p k : Int} {ms : List (Int × Int)} (h : strOk p k ms = true) (W : Nat) : holds W (tmOf p (strL p k ms)) = (W.testBit k.toNat == (W.testBit (p - 1).toNat == holds W (tmOf p ms))) := by
  obtain ⟨_, _, _, hc, hc2⟩ := str_parts h
  unfold strL
  rw [holds_cterm hc2]
  unfold mayT
  dsimp only
  rw [holds_cterm hc]
  rfl
/-- asked so, the word is said exactly if the term holds -/
theorem str_word {p k : Int} {ms : List (Int × Int)} (h : strOk p k ms = true) (W : Nat) : wordT p k (strL p k ms) W = holds W (tmOf p ms) := by
  unfold wordT mayT
  dsimp only
  rw [str_tm h]
  cases W.testBit k.toNat <;> cases W.testBit (p - 1).toNat <;> cases holds W (tmOf p ms) <;> rfl
theorem str_says {p k x : Int} {ms : List (Int × Int)} (h : strOk p k ms = true) (hx : wOk p x = true) : (wordN p k (strL p k ms) x == 1) = holdsV p ms x := by
  obtain ⟨h8, ht, hs, _, _⟩ := str_parts h
  rw [wordN_yes h8 hs hx, str_word h]
  unfold holdsV
  rw [ht, hx]
  cases holds x.toNat (tmOf p ms) <;> rfl
/-- words are equivalences of three -/
theorem str_table {p k : Int} {ms : List (Int × Int)} (h : strOk p k ms = true) : tabV p (strL p k ms) = (wtabN p k ms : Int) := by
  obtain ⟨_, _, hs, _, _⟩ := str_parts h
  rw [tabV_yes hs]
  unfold wtabN
  have e : (fun w => holds w (tmOf p (strL p k ms))) = wordT p k ms := by
    funext W
    rw [str_tm h]
    unfold wordT mayT
    dsimp only
    cases W.testBit k.toNat <;> cases W.testBit (p - 1).toNat <;> cases holds W (tmOf p ms) <;> rfl
  rw [e]
/-- in worlds in which the word means yes it is the trick -/
theorem str_same {p k : Int} {ms : List (Int × Int)} {x : Int} (h : strOk p k ms = true) (hx : wOk p x = true) (hb : x.toNat.testBit (p - 1).toNat = true) : wordN p k (strL p k ms) x = ansN p k (strL p k ms) x ∧ (claimOk p (k, ms) = true → ansN p k (ctermL (k, ms)) x = wordN p k (strL p k ms) x) := by
  obtain ⟨h8, ht, hs, _, _⟩ := str_parts h
  obtain ⟨hk, _⟩ := l8V_in h8
  have e1 : wordT p k (strL p k ms) x.toNat = mayT p (k, strL p k ms) x.toNat := by
    unfold wordT
    rw [hb]
    cases mayT p (k, strL p k ms) x.toNat <;> rfl
  refine ⟨by rw [wordN_yes h8 hs hx, ansN_yes hs hx hk, e1], fun hc => ?_⟩
  rw [wordN_yes h8 hs hx, str_word h, ansN_yes (trick_term hc) hx hk, trick_holds hc]
/-- in another land each word means the other one -/
theorem word_flip {p k : Int} {ms : List (Int × Int)} {W : Nat} (h : l8V p k = true) (ht : termOk p ms = true) (hW : W < 2 ^ p.toNat) (hm : matters p (tmOf p ms) (p - 1).toNat = false) : wordT p k ms (W ^^^ 1 <<< (p - 1).toNat) = !wordT p k ms W := by
  obtain ⟨h1, h2, h3, h4⟩ := l8V_iff.1 h
  have hno : holds (W ^^^ 1 <<< (p - 1).toNat) (tmOf p ms) = holds W (tmOf p ms) := by
    unfold matters at hm
    rw [decide_eq_false_iff_not] at hm
    cases hd : decide (holds W (tmOf p ms) = holds (W ^^^ 1 <<< (p - 1).toNat) (tmOf p ms)) with
    | true => exact (of_decide_eq_true hd).symm
    | false => exact absurd ⟨W, hW, of_decide_eq_false hd⟩ hm
  have hk : (W ^^^ 1 <<< (p - 1).toNat).testBit k.toNat = W.testBit k.toNat := by
    rw [Nat.testBit_xor, Nat.one_shiftLeft, Nat.testBit_two_pow]
    rw [decide_eq_false (show ¬ (p - 1).toNat = k.toNat by omega), Bool.xor_false]
  unfold wordT mayT
  dsimp only
  rw [hno, hk, flip_testBit]
  cases W.testBit k.toNat <;> cases W.testBit (p - 1).toNat <;> cases holds W (tmOf p ms) <;> rfl
/-- what is answered, and what is said -/
theorem word_ans {p k x : Int} {ms : List (Int × Int)} (h : l8V p k = true) (ht : termOk p ms = true) (hx : wOk p x = true) : x.toNat.testBit (p - 1).toNat = (ansN p k ms x == wordN p k ms x) := by
  obtain ⟨hk, _⟩ := l8V_in h
  rw [wordN_yes h ht hx, ansN_yes ht hx hk]
  unfold wordT
  cases mayT p (k, ms) x.toNat <;> cases x.toNat.testBit (p - 1).toNat <;> rfl
end Go.Proofs.Ytbcmepcjhobemaa
