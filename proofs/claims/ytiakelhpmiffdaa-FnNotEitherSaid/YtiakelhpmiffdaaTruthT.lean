/- Contracts of the reference's truth of terms: HoldsIn, TableOf, SameOk, FollowsOk, AlwaysOk, MatterIn. -/
import Derived.Test.YtiakelhpmiffdaaTruthS
import Derived.Test.YtiakelhpmiffdaaTruthM
namespace Go.Proofs.Ytiakelhpmiffdaa
open Go.RowKit
theorem bits_andNot_nat (a b : Nat) (ha : a < 9223372036854775808) (hb : b < 9223372036854775808) :
    bits .andNot .i64 (a : Int) (b : Int) = ((a ^^^ (a &&& b) : Nat) : Int) := by
  have hx : a ^^^ (a &&& b) < 2 ^ 63 := Nat.xor_lt_two_pow (by omega) (Nat.and_lt_two_pow _ (by omega))
  have hy : (BitVec.ofInt 64 (a : Int) &&& ~~~ BitVec.ofInt 64 (b : Int)).toNat = a ^^^ (a &&& b) := by
    refine Nat.eq_of_testBit_eq fun i => ?_
    rw [BitVec.testBit_toNat, BitVec.getLsbD_and, BitVec.getLsbD_not, ← BitVec.testBit_toNat, ← BitVec.testBit_toNat, ofInt_nat a ha, ofInt_nat b hb, Nat.testBit_xor, Nat.testBit_and]
    by_cases hi : i < 64
    · simp [hi]
      cases a.testBit i <;> cases b.testBit i <;> rfl
    · have : a.testBit i = false := Nat.testBit_lt_two_pow (Nat.lt_of_lt_of_le (show a < 2 ^ 63 by omega) (Nat.pow_le_pow_right (by decide) (by omega)))
      simp [this]
  show IntKind.i64.wrap ((BitVec.ofInt 64 (a : Int) &&& ~~~ BitVec.ofInt 64 (b : Int)).toNat : Int) = _
  rw [hy, IntKind.wrap_i64]
  omega
theorem less_zero {A B : Nat} : A ^^^ (A &&& B) = 0 ↔ ∀ j, A.testBit j = true → B.testBit j = true := by
  constructor
  · intro h j hj
    have := congrArg (fun x => x.testBit j) h
    simp only [Nat.testBit_xor, Nat.testBit_and, Nat.zero_testBit, hj] at this
    cases hb : B.testBit j with
    | true => rfl
    | false => rw [hb] at this; simp at this
  · intro h
    refine Nat.eq_of_testBit_eq fun j => ?_
    rw [Nat.testBit_xor, Nat.testBit_and, Nat.zero_testBit]
    cases ha : A.testBit j with
    | true => rw [h j ha]; rfl
    | false => rfl
/-- the table of a term for p people, as a number -/
def tabN (p : Int) (ms : List (Int × Int)) : Nat := tabF (2 ^ p.toNat) (fun w => holds w (tmOf p ms))
theorem tabN_lt {p : Int} {ms : List (Int × Int)} (h : termOk p ms = true) : tabN p ms < 65536 := by
  obtain ⟨h1, h4⟩ := p_of h
  have h2 := tabF_lt (2 ^ p.toNat) (fun w => holds w (tmOf p ms))
  have h3 : 2 ^ p.toNat ≤ 16 := two16 (by omega)
  have h5 : 2 ^ (2 ^ p.toNat) ≤ 2 ^ 16 := Nat.pow_le_pow_right (by decide) h3
  unfold tabN
  omega
theorem tabV_N {p : Int} {ms : List (Int × Int)} (h : termOk p ms = true) : tabV p ms = (tabN p ms : Int) := tabV_yes h
theorem sameV_N {p : Int} {a b : List (Int × Int)} (ha : termOk p a = true) (hb : termOk p b = true) : sameV p a b = ((tabN p a : Int) == (tabN p b : Int)) := by
  unfold sameV
  rw [ha, hb, tabV_N ha, tabV_N hb]
  rw [Bool.eq_iff_iff]; simp
theorem followsV_N {p : Int} {a b : List (Int × Int)} (ha : termOk p a = true) (hb : termOk p b = true) : followsV p a b = (((tabN p a ^^^ (tabN p a &&& tabN p b) : Nat) : Int) == 0) := by
  unfold followsV
  rw [ha, hb, Bool.eq_iff_iff]
  simp only [Bool.true_and, decide_eq_true_eq, beq_iff_eq]
  rw [show (((tabN p a ^^^ (tabN p a &&& tabN p b) : Nat) : Int) = 0) ↔ (tabN p a ^^^ (tabN p a &&& tabN p b) = 0) by omega, less_zero]
  unfold tabN
  constructor
  · intro h j hj
    rw [tabF_bit, Bool.and_eq_true, decide_eq_true_eq] at hj
    rw [tabF_bit, decide_eq_true hj.1, Bool.true_and]
    exact h j hj.1 hj.2
  · intro h w hw hh
    have := h w (by rw [tabF_bit, decide_eq_true hw, Bool.true_and]; exact hh)
    rw [tabF_bit, Bool.and_eq_true] at this
    exact this.2
theorem tabF_full (N : Nat) (f : Nat → Bool) : tabF N f = 2 ^ N - 1 ↔ ∀ w, w < N → f w = true := by
  constructor
  · intro h w hw
    have := congrArg (fun x => x.testBit w) h
    rw [tabF_bit, Nat.testBit_two_pow_sub_one, decide_eq_true hw, Bool.true_and] at this
    exact this
  · intro h
    refine Nat.eq_of_testBit_eq fun w => ?_
    rw [tabF_bit, Nat.testBit_two_pow_sub_one]
    by_cases hw : w < N
    · rw [decide_eq_true hw, h w hw]; rfl
    · rw [decide_eq_false hw]; rfl
theorem alwaysV_N {p : Int} {ms : List (Int × Int)} (h : termOk p ms = true) (F : Int) (hF : F = ((2 ^ (2 ^ p.toNat) - 1 : Nat) : Int)) : alwaysV p ms = ((tabN p ms : Int) == F) := by
  unfold alwaysV
  rw [h, hF, Bool.eq_iff_iff]
  simp only [Bool.true_and, decide_eq_true_eq, beq_iff_eq]
  rw [← tabF_full]
  unfold tabN
  omega
theorem holdsV_no {p : Int} {ms : List (Int × Int)} {x : Int} (h : termOk p ms = false) : holdsV p ms x = false := by simp [holdsV, h]
theorem holdsV_no2 {p : Int} {ms : List (Int × Int)} {x : Int} (h : wOk p x = false) : holdsV p ms x = false := by simp [holdsV, h]
theorem holdsV_at {p x : Int} {t : Tm} (h : termOk p t.post = true) (ht : t.ok p) (hx : wOk p x = true) : holdsV p t.post x = holds x.toNat t := by simp [holdsV, h, hx, tmOf_post ht]
theorem sameV_no {p : Int} {a b : List (Int × Int)} (h : termOk p a = false ∨ termOk p b = false) : sameV p a b = false := by rcases h with h | h <;> simp [sameV, h]
theorem followsV_no {p : Int} {a b : List (Int × Int)} (h : termOk p a = false ∨ termOk p b = false) : followsV p a b = false := by rcases h with h | h <;> simp [followsV, h]
theorem alwaysV_no {p : Int} {a : List (Int × Int)} (h : termOk p a = false) : alwaysV p a = false := by simp [alwaysV, h]
theorem matterV_no {p : Int} {a : List (Int × Int)} (h : termOk p a = false) : matterV p a = -1 := by simp [matterV, h]
theorem matterV_yes {p : Int} {a : List (Int × Int)} (h : termOk p a = true) : matterV p a = (matterN p (tmOf p a) : Int) := by simp [matterV, h]
attribute [local irreducible] holds tabN tabV holdsV sameV followsV alwaysV matterV
theorem specTableN (p : Int) (ms : List (Int × Int)) (h : termOk p ms = true) (B : Nat) (v : Value) (w : World) (hr : RdMarks w B v ms) (hB : B ≤ w.heap.size) :
    Calls Try.prog 58 #[.int .i64 p, v] w fun e w' => e = .returned (.int .i64 (tabN p ms)) ∧ Below w.heap.size w w' := by
  obtain ⟨⟨h1, h4⟩, hl, t, ht, rfl⟩ := termOk_iff.1 h
  have := specTable p (2 ^ p.toNat) t h1 h4 (cnt_of p) ht hl B v w hr hB
  refine this.mono ?_
  rintro e w' ⟨rfl, hb⟩
  refine ⟨?_, hb⟩
  unfold tabN
  rw [tmOf_post ht]
set_option maxHeartbeats 1000000 in
theorem specHoldsIn (p : Int) (ms : List (Int × Int)) (x : Int) (B : Nat) (v : Value) (w : World) (hr : RdMarks w B v ms) (hB : B ≤ w.heap.size) :
    Calls Try.prog 19 #[.int .i64 p, v, .int .i64 x] w fun e w' => e = .returned (.bool (holdsV p ms x)) ∧ Below w.heap.size w w' := by
  cases hok : termOk p ms with
  | false =>
    have Hok := Lib.hid hok
    have Hf := Lib.hid (holdsV_no (x := x) hok)
    clear hok
    go_enter Try.func19, Try.ntmps19
    go_wp2_with fail
    refine (specTermOk _ _ _ _ _ hr).mono ?_
    rintro e w' ⟨rfl, rfl⟩
    rw [Hok.out]
    go_wp2
    go_ret
    exact ⟨by rw [Hf.out]; rfl, Below.refl _ _⟩
  | true =>
    cases hx : wOk p x with
    | false =>
      have Hok := Lib.hid hok
      have Hx := Lib.hid hx
      have Hf := Lib.hid (holdsV_no2 (ms := ms) hx)
      clear hok hx
      go_enter Try.func19, Try.ntmps19
      go_wp2_with fail
      refine (specTermOk _ _ _ _ _ hr).mono ?_
      rintro e w' ⟨rfl, rfl⟩
      rw [Hok.out]
      go_wp2_with fail
      refine (specWorldOk _ _ _).mono ?_
      rintro e w' ⟨rfl, rfl⟩
      rw [Hx.out]
      go_wp2
      go_ret
      exact ⟨by rw [Hf.out]; rfl, Below.refl _ _⟩
    | true =>
      obtain ⟨⟨h1, h4⟩, hl, t, ht, rfl⟩ := termOk_iff.1 hok
      obtain ⟨_, _, hx0, hx16⟩ := wOk_lt hx
      have Hf := Lib.hid (holdsV_at hok ht hx)
      obtain ⟨X, rfl⟩ := Int.eq_ofNat_of_zero_le hx0
      have Hc := Lib.hid (specHolds h4 t ht hl X B v)
      rw [Int.toNat_natCast] at Hf
      have Hok := Lib.hid hok
      have Hx := Lib.hid hx
      clear hok hx
      go_enter Try.func19, Try.ntmps19
      go_wp2_with fail
      refine (specTermOk _ _ _ _ _ hr).mono ?_
      rintro e w' ⟨rfl, rfl⟩
      rw [Hok.out]
      go_wp2_with fail
      refine (specWorldOk _ _ _).mono ?_
      rintro e w' ⟨rfl, rfl⟩
      rw [Hx.out]
      go_wp2_with fail
      refine (Hc.out _ (by omega) hr hB).mono ?_
      rintro e w2 ⟨rfl, hb2⟩
      have Hb2 := Lib.hid hb2; clear hb2
      go_wp2
      go_ret
      exact ⟨by rw [Hf.out]; rfl, Hb2.out⟩
set_option maxHeartbeats 1000000 in
theorem specTableOf (p : Int) (ms : List (Int × Int)) (B : Nat) (v : Value) (w : World) (hr : RdMarks w B v ms) (hB : B ≤ w.heap.size) :
    Calls Try.prog 27 #[.int .i64 p, v] w fun e w' => e = .returned (.int .i64 (tabV p ms)) ∧ Below w.heap.size w w' := by
  cases hok : termOk p ms with
  | false =>
    have Hok := Lib.hid hok
    have Hf := Lib.hid (tabV_no hok)
    clear hok
    go_enter Try.func27, Try.ntmps27
    go_wp2_with fail
    refine (specTermOk _ _ _ _ _ hr).mono ?_
    rintro e w' ⟨rfl, rfl⟩
    rw [Hok.out]
    go_wp2
    go_ret
    exact ⟨by rw [Hf.out]; rfl, Below.refl _ _⟩
  | true =>
    have Hok := Lib.hid hok
    have Hf := Lib.hid (tabV_N hok)
    clear hok
    go_enter Try.func27, Try.ntmps27
    go_wp2_with fail
    refine (specTermOk _ _ _ _ _ hr).mono ?_
    rintro e w' ⟨rfl, rfl⟩
    rw [Hok.out]
    go_wp2_with fail
    refine (specTableN p ms Hok.out _ _ _ hr hB).mono ?_
    rintro e w2 ⟨rfl, hb2⟩
    have Hb2 := Lib.hid hb2; clear hb2
    go_wp2
    go_ret
    exact ⟨by rw [Hf.out]; rfl, Hb2.out⟩
set_option maxHeartbeats 1000000 in
theorem specSameOk (p : Int) (xs ys : List (Int × Int)) (B B' : Nat) (a b : Value) (w : World) (hr : RdMarks w B a xs) (hr' : RdMarks w B' b ys) (hB : B ≤ w.heap.size) (hB' : B' ≤ w.heap.size) :
    Calls Try.prog 35 #[.int .i64 p, a, b] w fun e w' => e = .returned (.bool (sameV p xs ys)) ∧ Below w.heap.size w w' := by
  cases hx : termOk p xs with
  | false =>
    have Hx := Lib.hid hx
    have Hf := Lib.hid (sameV_no (a := xs) (b := ys) (.inl hx))
    clear hx
    go_enter Try.func35, Try.ntmps35
    go_wp2_with fail
    refine (specTermOk _ _ _ _ _ hr).mono ?_
    rintro e w' ⟨rfl, rfl⟩
    rw [Hx.out]
    go_wp2
    go_ret
    exact ⟨by rw [Hf.out]; rfl, Below.refl _ _⟩
  | true =>
    cases hy : termOk p ys with
    | false =>
      have Hx := Lib.hid hx
      have Hy := Lib.hid hy
      have Hf := Lib.hid (sameV_no (a := xs) (b := ys) (.inr hy))
      clear hx hy
      go_enter Try.func35, Try.ntmps35
      go_wp2_with fail
      refine (specTermOk _ _ _ _ _ hr).mono ?_
      rintro e w' ⟨rfl, rfl⟩
      rw [Hx.out]
      go_wp2_with fail
      refine (specTermOk _ _ _ _ _ hr').mono ?_
      rintro e w' ⟨rfl, rfl⟩
      rw [Hy.out]
      go_wp2
      go_ret
      exact ⟨by rw [Hf.out]; rfl, Below.refl _ _⟩
    | true =>
      have Hx := Lib.hid hx
      have Hy := Lib.hid hy
      have Hf := Lib.hid (sameV_N hx hy)
      clear hx hy
      go_enter Try.func35, Try.ntmps35
      go_wp2_with fail
      refine (specTermOk _ _ _ _ _ hr).mono ?_
      rintro e w' ⟨rfl, rfl⟩
      rw [Hx.out]
      go_wp2_with fail
      refine (specTermOk _ _ _ _ _ hr').mono ?_
      rintro e w' ⟨rfl, rfl⟩
      rw [Hy.out]
      go_wp2_with fail
      refine (specTableN p xs Hx.out _ _ _ hr hB).mono ?_
      rintro e w2 ⟨rfl, hb2⟩
      have Hb2 := Lib.hid hb2
      have Hr2 := Lib.hid (hr'.below (w' := w2) (fun q hq => hb2.block q (by omega)))
      have hB2 : B' ≤ w2.heap.size := by have := hb2.size; omega
      clear hb2
      go_wp2_with fail
      refine (specTableN p ys Hy.out _ _ _ Hr2.out hB2).mono ?_
      rintro e w3 ⟨rfl, hb3⟩
      have Hb3 := Lib.hid (Hb2.out.trans (hb3.mono Hb2.out.size)); clear hb3
      go_wp2
      go_ret
      exact ⟨by rw [Hf.out]; rfl, Hb3.out⟩
set_option maxHeartbeats 1000000 in
theorem specFollowsOk (p : Int) (xs ys : List (Int × Int)) (B B' : Nat) (a b : Value) (w : World) (hr : RdMarks w B a xs) (hr' : RdMarks w B' b ys) (hB : B ≤ w.heap.size) (hB' : B' ≤ w.heap.size) :
    Calls Try.prog 39 #[.int .i64 p, a, b] w fun e w' => e = .returned (.bool (followsV p xs ys)) ∧ Below w.heap.size w w' := by
  cases hx : termOk p xs with
  | false =>
    have Hx := Lib.hid hx
    have Hf := Lib.hid (followsV_no (a := xs) (b := ys) (.inl hx))
    clear hx
    go_enter Try.func39, Try.ntmps39
    go_wp2_with fail
    refine (specTermOk _ _ _ _ _ hr).mono ?_
    rintro e w' ⟨rfl, rfl⟩
    rw [Hx.out]
    go_wp2
    go_ret
    exact ⟨by rw [Hf.out]; rfl, Below.refl _ _⟩
  | true =>
    cases hy : termOk p ys with
    | false =>
      have Hx := Lib.hid hx
      have Hy := Lib.hid hy
      have Hf := Lib.hid (followsV_no (a := xs) (b := ys) (.inr hy))
      clear hx hy
      go_enter Try.func39, Try.ntmps39
      go_wp2_with fail
      refine (specTermOk _ _ _ _ _ hr).mono ?_
      rintro e w' ⟨rfl, rfl⟩
      rw [Hx.out]
      go_wp2_with fail
      refine (specTermOk _ _ _ _ _ hr').mono ?_
      rintro e w' ⟨rfl, rfl⟩
      rw [Hy.out]
      go_wp2
      go_ret
      exact ⟨by rw [Hf.out]; rfl, Below.refl _ _⟩
    | true =>
      have Hx := Lib.hid hx
      have Hy := Lib.hid hy
      have Hf := Lib.hid (followsV_N hx hy)
      have hnot := bits_andNot_nat (tabN p xs) (tabN p ys) (by have := tabN_lt hx; omega) (by have := tabN_lt hy; omega)
      generalize hD : tabN p xs ^^^ (tabN p xs &&& tabN p ys) = D at *
      clear hx hy
      go_enter Try.func39, Try.ntmps39
      go_wp2_with fail
      refine (specTermOk _ _ _ _ _ hr).mono ?_
      rintro e w' ⟨rfl, rfl⟩
      rw [Hx.out]
      go_wp2_with fail
      refine (specTermOk _ _ _ _ _ hr').mono ?_
      rintro e w' ⟨rfl, rfl⟩
      rw [Hy.out]
      go_wp2_with fail
      refine (specTableN p xs Hx.out _ _ _ hr hB).mono ?_
      rintro e w2 ⟨rfl, hb2⟩
      have Hb2 := Lib.hid hb2
      have Hr2 := Lib.hid (hr'.below (w' := w2) (fun q hq => hb2.block q (by omega)))
      have hB2 : B' ≤ w2.heap.size := by have := hb2.size; omega
      clear hb2
      go_wp2_with fail
      refine (specTableN p ys Hy.out _ _ _ Hr2.out hB2).mono ?_
      rintro e w3 ⟨rfl, hb3⟩
      have Hb3 := Lib.hid (Hb2.out.trans (hb3.mono Hb2.out.size)); clear hb3
      go_wp2
      go_ret
      exact ⟨by rw [Hf.out]; rfl, Hb3.out⟩
set_option maxRecDepth 100000 in
set_option maxHeartbeats 2000000 in
theorem specMatterIn (p : Int) (ms : List (Int × Int)) (B : Nat) (v : Value) (w : World) (hr : RdMarks w B v ms) (hB : B ≤ w.heap.size) :
    Calls Try.prog 44 #[.int .i64 p, v] w fun e w' => e = .returned (.int .i64 (matterV p ms)) ∧ Below w.heap.size w w' := by
  cases hok : termOk p ms with
  | false =>
    have Hok := Lib.hid hok
    have Hf := Lib.hid (matterV_no hok)
    clear hok
    go_enter Try.func44, Try.ntmps44
    go_wp2_with fail
    refine (specTermOk _ _ _ _ _ hr).mono ?_
    rintro e w' ⟨rfl, rfl⟩
    rw [Hok.out]
    go_wp2
    go_ret
    exact ⟨by rw [Hf.out]; rfl, Below.refl _ _⟩
  | true =>
    have hf := matterV_yes hok
    obtain ⟨⟨h1, h4⟩, hl, t, ht, hpost⟩ := termOk_iff.1 hok
    subst hpost
    rw [tmOf_post ht] at hf
    have Hf := Lib.hid hf; clear hf
    have Hok := Lib.hid hok; clear hok
    obtain ⟨P, rfl⟩ := Int.eq_ofNat_of_zero_le (show 0 ≤ p by omega)
    obtain ⟨N, hN⟩ : ∃ N : Nat, N = 2 ^ P := ⟨_, rfl⟩
    have hsh : wrap64 (2 ^ P) = (N : Int) := by
      rcases p_cases h1 h4 with h | h | h | h <;> (obtain rfl : P = _ := Int.ofNat.inj h) <;> (rw [hN]; decide +kernel)
    have hP1 : 1 ≤ P := by omega
    have hP4 : P ≤ 4 := by omega
    have hN16 : N ≤ 16 := by rw [hN]; exact two16 hP4
    have Hc := Lib.hid (fun (W : Nat) hW w h hB => specHolds h4 t ht hl W B v w hW h hB)
    have Hm : Hid (∀ k, k < P → matters (P : Int) t k = decide (∃ j, j < N ∧ holds j t ≠ holds (j ^^^ 1 <<< k) t)) := fun k _ => by unfold matters; rw [Int.toNat_natCast, hN]
    have Hn : Hid (matterN (P : Int) t = tabF P (matters (P : Int) t)) := by unfold Hid matterN; rw [Int.toNat_natCast]
    have HN := Lib.hid hN; clear hN
    have Hr := Lib.hid hr; clear hr
    obtain ⟨wo, rfl⟩ : ∃ wo : World, wo = w := ⟨_, rfl⟩
    clear h1 h4
    go_enter Try.func44, Try.ntmps44
    go_wp2_with fail
    refine (specTermOk _ _ _ _ _ Hr.out).mono ?_
    rintro e w' ⟨rfl, rfl⟩
    rw [Hok.out]
    go_wp2_with fail
    go_loopw [5, 6] (fun o i wr => ∃ k : Nat, k ≤ P ∧ i = .int .i64 k ∧ o = .int .i64 (tabF k (matters (P : Int) t)) ∧ Below wo.heap.size wo wr) (fun _ i _ => P - (intOf i).toNat)
    case atStart => exact ⟨0, Nat.zero_le _, rfl, rfl, Below.refl _ _⟩
    case round =>
      obtain ⟨k, hk, rfl, rfl, hbr⟩ := hrel
      have Hbr := Lib.hid hbr
      clear hbr
      by_cases hlt : k < P
      · have Hmk := Lib.hid (Hm.out k hlt)
        have Hs := Lib.hid (tabF_succ k (matters (P : Int) t))
        have hT16 : tabF k (matters (P : Int) t) < 16 := Nat.lt_of_lt_of_le (tabF_lt k _) (two16 (p := k) (by omega))
        have hor := or_shlN (t := tabF k (matters (P : Int) t)) (x := k) (N := P) (Nat.lt_of_lt_of_le (tabF_lt k _) (Nat.pow_le_pow_right (by decide) hk)) (by omega) hlt
        rw [Nat.min_eq_left (by omega)] at hor
        have hor2 : bits BinOp.or IntKind.i64 ((tabF k (matters (P : Int) t) ||| 1 <<< k : Nat) : Int) (wrap64 (2 ^ k)) = ((tabF k (matters (P : Int) t) ||| 1 <<< k : Nat) : Int) := by
          have h1 := or_shl (t := tabF k (matters (P : Int) t) ||| 1 <<< k) (x := k) (by
            have : tabF k (matters (P : Int) t) ||| 1 <<< k < 2 ^ 16 := Nat.or_lt_two_pow (by omega) (by rw [Nat.one_shiftLeft]; exact Nat.pow_lt_pow_right (by decide) (by omega))
            omega) (by omega)
          rw [Nat.min_eq_left (by omega)] at h1
          rw [h1, Nat.or_assoc, Nat.or_self]
        generalize tabF k (matters (P : Int) t) = T at *
        generalize matters (P : Int) t k = mk at *
        go_wp2_with fail
        go_loopw [5, 7] (fun o i wr => ∃ (j : Nat) (d : Bool), j ≤ N ∧ i = .int .i64 j ∧ o = .int .i64 ((if d then T ||| 1 <<< k else T : Nat) : Int) ∧ Hid (d = decide (∃ i, i < j ∧ holds i t ≠ holds (i ^^^ 1 <<< k) t)) ∧ Below wo.heap.size wo wr) (fun _ i _ => N - (intOf i).toNat)
        case atStart => exact ⟨0, false, Nat.zero_le _, rfl, rfl, by unfold Hid; simp, Hbr.out⟩
        case round =>
          obtain ⟨j, d, hj, rfl, rfl, hd, hbr2⟩ := hrel
          have horV : bits BinOp.or IntKind.i64 ((if d then T ||| 1 <<< k else T : Nat) : Int) (wrap64 (2 ^ k)) = ((T ||| 1 <<< k : Nat) : Int) := by
            cases d
            · exact hor
            · exact hor2
          obtain ⟨V, hV⟩ : ∃ V : Nat, V = (if d then T ||| 1 <<< k else T) := ⟨_, rfl⟩
          rw [← hV] at horV ⊢
          have HV := Lib.hid hV; clear hV
          have hB2 : B ≤ wr.heap.size := by have := hbr2.size; omega
          have Hr2 := Lib.hid (Hr.out.below (w' := wr) (fun q hq => hbr2.block q (by omega)))
          have Hbr2 := Lib.hid hbr2
          clear hbr2
          by_cases hjl : j < N
          · have hpk : wrap64 (2 ^ k) = ((1 <<< k : Nat) : Int) := by
              have h4 : k = 0 ∨ k = 1 ∨ k = 2 ∨ k = 3 := by omega
              rcases h4 with rfl | rfl | rfl | rfl <;> decide +kernel
            have hk16 : 1 <<< k < 16 := by
              have h4 : k = 0 ∨ k = 1 ∨ k = 2 ∨ k = 3 := by omega
              rcases h4 with rfl | rfl | rfl | rfl <;> decide
            have hxor := bits_xor_nat j (1 <<< k) (by omega) (by omega)
            have hpk2 : IntKind.i64.wrap (2 ^ k) = ((1 <<< k : Nat) : Int) := by
              have h4 : k = 0 ∨ k = 1 ∨ k = 2 ∨ k = 3 := by omega
              rcases h4 with rfl | rfl | rfl | rfl <;> decide +kernel
            rw [← hpk2] at hxor
            clear hpk2
            have hJ : j ^^^ 1 <<< k < 16 := Nat.xor_lt_two_pow (n := 4) (by omega) (by omega)
            have Hd' : Hid (decide (∃ i, i < j + 1 ∧ holds i t ≠ holds (i ^^^ 1 <<< k) t) = (d || decide (holds j t ≠ holds (j ^^^ 1 <<< k) t))) := by
              unfold Hid
              rw [hd.out, Bool.eq_iff_iff]
              simp only [Bool.or_eq_true, decide_eq_true_eq]
              constructor
              · rintro ⟨i, hi, hne⟩
                by_cases e : i = j
                · subst e; exact .inr hne
                · exact .inl ⟨i, by omega, hne⟩
              · rintro (⟨i, hi, hne⟩ | hne)
                · exact ⟨i, by omega, hne⟩
                · exact ⟨j, by omega, hne⟩
            have Hc1 := Lib.hid (Hc.out j (by omega))
            have Hc2 := Lib.hid (Hc.out (j ^^^ 1 <<< k) hJ)
            clear hpk hk16
            generalize j ^^^ 1 <<< k = J at *
            generalize holds j t = oa at *
            generalize holds J t = ob at *
            go_wp2_with fail
            go_region_held3 (fun _ => True)
              (first | go_keep | trivial)
              (first
                | (go_at_call 53
                   (with_reducible refine (Hc1.out _ ?_ ?_).mono ?_)
                   · exact Hr2.out
                   · exact hB2
                   rintro e w3 ⟨rfl, hb3'⟩
                   go_must (have hb3 : Below wr.heap.size wr w3 := by first | exact hb3' | exact below_undrewS hb3' | exact below_undrewN hb3'
                            clear hb3'
                            have hB3 : B ≤ w3.heap.size := by have := hb3.size; omega
                            have Hr3 := Lib.hid (Hr2.out.below (w' := w3) (fun q hq => hb3.block q (by omega)))
                            have Hb3 := Lib.hid (Hbr2.out.trans (hb3.mono Hbr2.out.size))
                            clear hb3))
                | (go_at_call 53
                   (with_reducible refine (Hc2.out _ ?_ ?_).mono ?_)
                   · exact Hr3.out
                   · exact hB3
                   rintro e w4 ⟨rfl, hb4'⟩
                   go_must (have hb4 : Below w3.heap.size w3 w4 := by first | exact hb4' | exact below_undrewS hb4' | exact below_undrewN hb4'
                            clear hb4'
                            have Hb4 := Lib.hid (Hb3.out.trans (hb4.mono Hb3.out.size))
                            clear hb4))
                | fail)
            have hd2 := Hd'.out
            cases oa <;> cases ob
            · go_wp2
              go_roundw
              case rel => exact ⟨j + 1, d, by omega, by go_num, by rw [HV.out], by unfold Hid; rw [hd2]; simp, Hb4.out⟩
              case measure => simp [intOf]; omega
            · go_wp2
              go_roundw
              case rel => exact ⟨j + 1, true, by omega, by go_num, rfl, by unfold Hid; rw [hd2]; simp, Hb4.out⟩
              case measure => simp [intOf]; omega
            · go_wp2
              go_roundw
              case rel => exact ⟨j + 1, true, by omega, by go_num, rfl, by unfold Hid; rw [hd2]; simp, Hb4.out⟩
              case measure => simp [intOf]; omega
            · go_wp2
              go_roundw
              case rel => exact ⟨j + 1, d, by omega, by go_num, by rw [HV.out], by unfold Hid; rw [hd2]; simp, Hb4.out⟩
              case measure => simp [intOf]; omega
          · obtain rfl : j = N := by omega
            go_wp2
            go_roundw
            case rel =>
              refine ⟨k + 1, by omega, by go_num, ?_, Hbr2.out⟩
              rw [HV.out, Hs.out, Hmk.out, ← hd.out]
            case measure => simp [intOf]; omega
      · obtain rfl : k = P := by omega
        go_wp2
        go_ret
        exact ⟨by rw [Hf.out, Hn.out]; rfl, Hbr.out⟩
end Go.Proofs.Ytiakelhpmiffdaa
