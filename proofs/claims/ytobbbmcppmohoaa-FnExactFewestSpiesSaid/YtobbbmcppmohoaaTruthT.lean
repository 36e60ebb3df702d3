/- Contracts of the reference's truth of terms: HoldsIn, TableOf, SameOk, FollowsOk, AlwaysOk, MatterIn. -/
import Derived.Test.YtobbbmcppmohoaaTruthS
import Derived.Test.YtobbbmcppmohoaaTruthM
namespace Go.Proofs.Ytobbbmcppmohoaa
open Go.RowKit
theorem bits_andNot_nat (a b : Nat) (ha : a < 9223372036854775808) (hb : b < 9223372036854775808) :
    bits .andNot .i64 (a : Int) (b : Int) = ((a ^^^ (a &&& b) : Nat) : Int) := by
  have hx : a ^^^ (a &&& b) < 2 ^ 63 := Nat.xor_lt_two_pow (by omega) (Nat.and_lt_two_pow _ (by omega))
  have hy : (BitVec.ofInt 64 (a : Int) &&& ~~~ BitVec.ofInt 64 (b : Int)).toNat = a ^^^ (a &&& b) := by
    refine Nat.eq_of_testBit_eq fun i => ?_
    rw [BitVec.testBit_toNat, BitVec.getLsbD_and, BitVec.getLsbD_not, ← BitVec.testBit_toNat, ← BitVec.testBit_toNat, ofInt_nat a ha, ofInt_nat b hb, Nat.testBit_xor, Nat.testBit_and]
    by_cases hi : i < 64
    · simp [hi]
      cases a.testBit i <;> cases b.testBit i <;> rfl
    · have : a.testBit i = false := Nat.testBit_lt_two_pow (Nat.lt_of_lt_of_le (show a < 2 ^ 63 by omega) (Nat.pow_le_pow_right (by decide) (by omega)))
      simp [this]
  show IntKind.i64.wrap ((BitVec.ofInt 64 (a : Int) &&& ~~~ BitVec.ofInt 64 (b : Int)).toNat : Int) = _
  rw [hy, IntKind.wrap_i64]
  omega
theorem less_zero {A B : Nat} : A ^^^ (A &&& B) = 0 ↔ ∀ j, A.testBit j = true → B.testBit j = true := by
  constructor
  · intro h j hj
    have := congrArg (fun x => x.testBit j) h
    simp only [Nat.testBit_xor, Nat.testBit_and, Nat.zero_testBit, hj] at this
    cases hb : B.testBit j with
    | true => rfl
    | false => rw [hb] at this; simp at this
  · intro h
    refine Nat.eq_of_testBit_eq fun j => ?_
    rw [Nat.testBit_xor, Nat.testBit_and, Nat.zero_testBit]
    cases ha : A.testBit j with
    | true => rw [h j ha]; rfl
    | false => rfl
/-- the table of a term for p people, as a number -/
def tabN (p : Int) (ms : List (Int × Int)) : Nat := tabF (2 ^ p.toNat) (fun w => holds w (tmOf p ms))
theorem tabN_lt {p : Int} {ms : List (Int × Int)} (h : termOk p ms = true) : tabN p ms < 65536 := by
  obtain ⟨h1, h4⟩ := p_of h
  have h2 := tabF_lt (2 ^ p.toNat) (fun w => holds w (tmOf p ms))
  have h3 : 2 ^ p.toNat ≤ 16 := two16 (by omega)
  have h5 : 2 ^ (2 ^ p.toNat) ≤ 2 ^ 16 := Nat.pow_le_pow_right (by decide) h3
  unfold tabN
  omega
theorem tabV_N {p : Int} {ms : List (Int × Int)} (h : termOk p ms = true) : tabV p ms = (tabN p ms : Int) := tabV_yes h
theorem sameV_N {p : Int} {a b : List (Int × Int)} (ha : termOk p a = true) (hb : termOk p b = true) : sameV p a b = ((tabN p a : Int) == (tabN p b : Int)) := by
  unfold sameV
  rw [ha, hb, tabV_N ha, tabV_N hb]
  rw [Bool.eq_iff_iff]; simp
theorem followsV_N {p : Int} {a b : List (Int × Int)} (ha : termOk p a = true) (hb : termOk p b = true) : followsV p a b = (((tabN p a ^^^ (tabN p a &&& tabN p b) : Nat) : Int) == 0) := by
  unfold followsV
  rw [ha, hb, Bool.eq_iff_iff]
  simp only [Bool.true_and, decide_eq_true_eq, beq_iff_eq]
  rw [show (((tabN p a ^^^ (tabN p a &&& tabN p b) : Nat) : Int) = 0) ↔ (tabN p a ^^^ (tabN p a &&& tabN p b) = 0) by omega, less_zero]
  unfold tabN
  constructor
  · intro h j hj
    rw [tabF_bit, Bool.and_eq_true, decide_eq_true_eq] at hj
    rw [tabF_bit, decide_eq_true hj.1, Bool.true_and]
    exact h j hj.1 hj.2
  · intro h w hw hh
    have := h w (by rw [tabF_bit, decide_eq_true hw, Bool.true_and]; exact hh)
    rw [tabF_bit, Bool.and_eq_true] at this
    exact this.2
theorem tabF_full (N : Nat) (f : Nat → Bool) : tabF N f = 2 ^ N - 1 ↔ ∀ w, w < N → f w = true := by
  constructor
  · intro h w hw
    have := congrArg (fun x => x.testBit w) h
    rw [tabF_bit, Nat.testBit_two_pow_sub_one, decide_eq_true hw, Bool.true_and] at this
    exact this
  · intro h
    refine Nat.eq_of_testBit_eq fun w => ?_
    rw [tabF_bit, Nat.testBit_two_pow_sub_one]
    by_cases hw : w < N
    · rw [decide_eq_true hw, h w hw]; rfl
    · rw [decide_eq_false hw]; rfl
theorem alwaysV_N {p : Int} {ms : List (Int × Int)} (h : termOk p ms = true) (F : Int) (hF : F = ((2 ^ (2 ^ p.toNat) - 1 : Nat) : Int)) : alwaysV p ms = ((tabN p ms : Int) == F) := by
  unfold alwaysV
  rw [h, hF, Bool.eq_iff_iff]
  simp only [Bool.true_and, decide_eq_true_eq, beq_iff_eq]
  rw [← tabF_full]
  unfold tabN
  omega
theorem holdsV_no {p : Int} {ms : List (Int × Int)} {x : Int} (h : termOk p ms = false) : holdsV p ms x = false := by simp [holdsV, h]
theorem holdsV_no2 {p : Int} {ms : List (Int × Int)} {x : Int} (h : wOk p x = false) : holdsV p ms x = false := by simp [holdsV, h]
theorem holdsV_at {p x : Int} {t : Tm} (h : termOk p t.post = true) (ht : t.ok p) (hx : wOk p x = true) : holdsV p t.post x = holds x.toNat t := by simp [holdsV, h, hx, tmOf_post ht]
theorem sameV_no {p : Int} {a b : List (Int × Int)} (h : termOk p a = false ∨ termOk p b = false) : sameV p a b = false := by rcases h with h | h <;> simp [sameV, h]
theorem followsV_no {p : Int} {a b : List (Int × Int)} (h : termOk p a = false ∨ termOk p b = false) : followsV p a b = false := by rcases h with h | h <;> simp [followsV, h]
theorem alwaysV_no {p : Int} {a : List (Int × Int)} (h : termOk p a = false) : alwaysV p a = false := by simp [alwaysV, h]
theorem matterV_no {p : Int} {a : List (Int × Int)} (h : termOk p a = false) : matterV p a = -1 := by simp [matterV, h]
theorem matterV_yes {p : Int} {a : List (Int × Int)} (h : termOk p a = true) : matterV p a = (matterN p (tmOf p a) : Int) := by simp [matterV, h]
attribute [local irreducible] holds tabN tabV holdsV sameV followsV alwaysV matterV
end Go.Proofs.Ytobbbmcppmohoaa
