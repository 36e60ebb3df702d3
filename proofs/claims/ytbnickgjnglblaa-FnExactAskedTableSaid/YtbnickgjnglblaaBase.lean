/- Plain facts: numbers, bits, worlds and tables, and what is said of slices in memory. Nothing here speaks of the program's text. -/
import Derived.Test.YtbnickgjnglblaaRows
import Derived.WalkKit
import Derived.WalkSpells
import Derived.WalkLawsBesides
import Derived.Lib.Hide
import Derived.BigQuiet
import Derived.Deep.QuietTactic
import Derived.Laws.BitsAllLaws
namespace Go.Proofs.Ytbnickgjnglblaa
open Go.RowKit

theorem ret_bool {a b : Bool} (h : a = b) : Ending.returned (.bool a) = .returned (.bool b) := by rw [h]
theorem ret_int {k : IntKind} {a b : Int} (h : a = b) : Ending.returned (.int k a) = .returned (.int k b) := by rw [h]
theorem ret_int2 {k k' : IntKind} {a b c d : Int} (h : a = b) (h' : c = d) : Ending.returned (.tuple #[.int k a, .int k' c]) = .returned (.tuple #[.int k b, .int k' d]) := by rw [h, h']

/-! ### bits of an int that is not negative -/
theorem ofInt_nat (a : Nat) (ha : a < 9223372036854775808) : (BitVec.ofInt 64 (a : Int)).toNat = a := by
  rw [BitVec.ofInt_natCast, BitVec.toNat_ofNat]; exact Nat.mod_eq_of_lt (by omega)
theorem bits_and_nat (a b : Nat) (ha : a < 9223372036854775808) (hb : b < 9223372036854775808) :
    bits .and .i64 (a : Int) (b : Int) = ((a &&& b : Nat) : Int) := by
  have hx : a &&& b < 2 ^ 63 := Nat.and_lt_two_pow _ (by omega)
  show IntKind.i64.wrap ((BitVec.ofInt 64 (a : Int) &&& BitVec.ofInt 64 (b : Int)).toNat : Int) = _
  rw [BitVec.toNat_and, ofInt_nat a ha, ofInt_nat b hb, IntKind.wrap_i64]
  omega
theorem bits_or_nat (a b : Nat) (ha : a < 9223372036854775808) (hb : b < 9223372036854775808) :
    bits .or .i64 (a : Int) (b : Int) = ((a ||| b : Nat) : Int) := by
  have hx : a ||| b < 2 ^ 63 := Nat.or_lt_two_pow (by omega) (by omega)
  show IntKind.i64.wrap ((BitVec.ofInt 64 (a : Int) ||| BitVec.ofInt 64 (b : Int)).toNat : Int) = _
  rw [BitVec.toNat_or, ofInt_nat a ha, ofInt_nat b hb, IntKind.wrap_i64]
  omega
theorem bits_xor_nat (a b : Nat) (ha : a < 9223372036854775808) (hb : b < 9223372036854775808) :
    bits .xor .i64 (a : Int) (b : Int) = ((a ^^^ b : Nat) : Int) := by
  have hx : a ^^^ b < 2 ^ 63 := Nat.xor_lt_two_pow (by omega) (by omega)
  show IntKind.i64.wrap ((BitVec.ofInt 64 (a : Int) ^^^ BitVec.ofInt 64 (b : Int)).toNat : Int) = _
  rw [BitVec.toNat_xor, ofInt_nat a ha, ofInt_nat b hb, IntKind.wrap_i64]
  omega
theorem shr_nat (T k : Nat) : (T : Int) / 2 ^ k = ((T >>> k : Nat) : Int) := by
  rw [Nat.shiftRight_eq_div_pow]; simp
theorem bit_mod (T k : Nat) : (T >>> k) % 2 = if T.testBit k then 1 else 0 := by
  rw [Nat.testBit]
  have h : 1 &&& T >>> k = (T >>> k) % 2 := by rw [Nat.and_comm, Nat.and_one_is_mod]
  rw [h]
  have := Nat.mod_two_eq_zero_or_one (T >>> k)
  rcases this with h | h <;> simp [h]
theorem and_one_val {T k : Nat} (hT : T < 9223372036854775808) : bits BinOp.and IntKind.i64 ((T : Int) / 2 ^ k) 1 = if T.testBit k then 1 else 0 := by
  rw [shr_nat]
  have h1 : T >>> k ≤ T := Nat.shiftRight_le T k
  have := bits_and_nat (T >>> k) 1 (by omega) (by decide)
  rw [show ((1 : Nat) : Int) = 1 from rfl] at this
  rw [this, Nat.and_one_is_mod, bit_mod]
  split <;> rfl
theorem and_one_yes {T k : Nat} (hT : T < 9223372036854775808) (h : T.testBit k = true) : (bits BinOp.and IntKind.i64 ((T : Int) / 2 ^ k) 1 == 1) = true := by
  rw [and_one_val hT, h]; rfl
theorem and_one_no {T k : Nat} (hT : T < 9223372036854775808) (h : T.testBit k = false) : (bits BinOp.and IntKind.i64 ((T : Int) / 2 ^ k) 1 == 1) = false := by
  rw [and_one_val hT, h]; rfl
theorem mod_two_val {T k : Nat} : ((T : Int) / 2 ^ k) % 2 = if T.testBit k then 1 else 0 := by
  rw [shr_nat]
  have h := bit_mod T k
  by_cases hb : T.testBit k = true
  · rw [if_pos hb] at h ⊢; omega
  · rw [if_neg hb] at h ⊢; omega

theorem tmod_two_val {T k : Nat} : ((T : Int) / 2 ^ k).tmod 2 = if T.testBit k then 1 else 0 := by
  rw [Int.tmod_eq_emod_of_nonneg (by rw [shr_nat]; exact Int.natCast_nonneg _), mod_two_val]

/-! ### worlds and tables -/
def pOk (p : Int) : Bool := decide (1 ≤ p ∧ p ≤ 4)
def wOk (p w : Int) : Bool := decide (1 ≤ p ∧ p ≤ 4 ∧ 0 ≤ w ∧ w < 2 ^ p.toNat)
def tOk (p t : Int) : Bool := decide (1 ≤ p ∧ p ≤ 4 ∧ 0 ≤ t ∧ t < 2 ^ 2 ^ p.toNat)
theorem p_cases {p : Int} (h1 : 1 ≤ p) (h2 : p ≤ 4) : p = 1 ∨ p = 2 ∨ p = 3 ∨ p = 4 := by omega
theorem wOk_iff {p w : Int} : wOk p w = true ↔ 1 ≤ p ∧ p ≤ 4 ∧ 0 ≤ w ∧ w < 2 ^ p.toNat := by simp [wOk]
theorem tOk_iff {p t : Int} : tOk p t = true ↔ 1 ≤ p ∧ p ≤ 4 ∧ 0 ≤ t ∧ t < 2 ^ 2 ^ p.toNat := by simp [tOk]
theorem wOk_lt {p w : Int} (h : wOk p w = true) : 1 ≤ p ∧ p ≤ 4 ∧ 0 ≤ w ∧ w < 16 := by
  obtain ⟨h1, h2, h3, h4⟩ := wOk_iff.1 h
  rcases p_cases h1 h2 with rfl | rfl | rfl | rfl <;> simp at h4 <;> omega
theorem tOk_lt {p t : Int} (h : tOk p t = true) : 1 ≤ p ∧ p ≤ 4 ∧ 0 ≤ t ∧ t < 65536 := by
  obtain ⟨h1, h2, h3, h4⟩ := tOk_iff.1 h
  rcases p_cases h1 h2 with rfl | rfl | rfl | rfl <;> simp at h4 <;> omega

/-- how many bits of a number below 2 to the 64 are 1 -/
def headsF : Nat → Nat → Nat
  | 0, _ => 0
  | k + 1, n => n % 2 + headsF k (n / 2)
def heads (n : Nat) : Nat := headsF 64 n
theorem headsF_stable : ∀ k n, n < 2 ^ k → headsF (k + 1) n = headsF k n := by
  intro k
  induction k with
  | zero => intro n h; have : n = 0 := by simpa using h
            subst this; rfl
  | succ k ih => intro n h
                 show n % 2 + headsF (k + 1) (n / 2) = n % 2 + headsF k (n / 2)
                 rw [ih (n / 2) (by rw [Nat.pow_succ] at h; omega)]
theorem heads_step (n : Nat) (h : n < 18446744073709551616) : heads n = n % 2 + heads (n / 2) := by
  have := headsF_stable 64 n (by simpa using h)
  unfold heads
  rw [← this]; rfl
theorem headsF_zero (k : Nat) : headsF k 0 = 0 := by
  induction k with
  | zero => rfl
  | succ k ih => show 0 % 2 + headsF k (0 / 2) = 0; simpa using ih
theorem headsF_le (k n : Nat) : headsF k n ≤ n := by
  induction k generalizing n with
  | zero => exact Nat.zero_le _
  | succ k ih => show n % 2 + headsF k (n / 2) ≤ n
                 have := ih (n / 2); omega
theorem heads_le (n : Nat) : heads n ≤ n := headsF_le 64 n

/-- the worlds below n that a table holds, in ascending order -/
def wl (T n : Nat) : List Nat := (List.range n).filter fun i => T.testBit i
theorem wl_le (T n : Nat) : (wl T n).length ≤ n := by
  unfold wl; have := List.length_filter_le (fun i => T.testBit i) (List.range n); simpa using this
theorem wl_succ (T n : Nat) : wl T (n + 1) = wl T n ++ if T.testBit n then [n] else [] := by
  unfold wl; rw [List.range_succ, List.filter_append]; simp [List.filter_cons]
theorem wl_mem {T n i : Nat} : i ∈ wl T n ↔ i < n ∧ T.testBit i = true := by simp [wl]
def vals (l : List Nat) : List Value := l.map fun (i : Nat) => Value.int .i64 i
/-- the same as numbers -/
def nums (l : List Nat) : List Int := l.map fun (i : Nat) => (i : Int)
theorem vals_nums (l : List Nat) : vals l = (nums l).map (Value.int .i64) := by simp [vals, nums]
theorem nums_length (l : List Nat) : (nums l).length = l.length := by simp [nums]

/-- the table of some worlds -/
def tabOf : List Nat → Nat
  | [] => 0
  | i :: r => tabOf r ||| 1 <<< i
theorem tabOf_bit (l : List Nat) (j : Nat) : (tabOf l).testBit j = decide (j ∈ l) := by
  induction l with
  | nil => simp [tabOf]
  | cons i r ih =>
    rw [tabOf, Nat.testBit_or, ih, Nat.one_shiftLeft, Nat.testBit_two_pow]
    by_cases h : j = i
    · subst h; simp
    · have : ¬ i = j := fun e => h e.symm
      simp [h, this]
theorem tabOf_lt (l : List Nat) (n : Nat) (h : ∀ i ∈ l, i < n) : tabOf l < 2 ^ n := by
  refine Nat.lt_pow_two_of_testBit _ fun j hj => ?_
  rw [tabOf_bit]
  simp
  intro hm
  have := h j hm
  omega
theorem testBit_false_of_lt {x j n : Nat} (h : x < 2 ^ n) (hj : n ≤ j) : x.testBit j = false :=
  Nat.testBit_lt_two_pow (Nat.lt_of_lt_of_le h (Nat.pow_le_pow_right (by decide) hj))
theorem bit_ext {x y n : Nat} (hx : x < 2 ^ n) (hy : y < 2 ^ n) (h : ∀ j, j < n → x.testBit j = y.testBit j) : x = y := by
  refine Nat.eq_of_testBit_eq fun j => ?_
  by_cases hj : j < n
  · exact h j hj
  · rw [testBit_false_of_lt hx (by omega), testBit_false_of_lt hy (by omega)]
theorem tabOf_wl {T n : Nat} (h : T < 2 ^ n) : tabOf (wl T n) = T := by
  refine bit_ext (tabOf_lt _ n fun i hi => (wl_mem.1 hi).1) h fun j hj => ?_
  rw [tabOf_bit]
  by_cases hb : T.testBit j = true
  · simp [wl_mem, hj, hb]
  · simp [wl_mem, hb]
theorem tabOf_snoc (l : List Nat) (i : Nat) : tabOf (l ++ [i]) = tabOf l ||| 1 <<< i := by
  refine Nat.eq_of_testBit_eq fun j => ?_
  rw [Nat.testBit_or, tabOf_bit, tabOf_bit, Nat.one_shiftLeft, Nat.testBit_two_pow]
  by_cases h : j = i
  · subst h; simp
  · have : ¬ i = j := fun e => h e.symm
    simp [h, this]
theorem tabOf_ext {l m : List Nat} (h : ∀ j, j ∈ l ↔ j ∈ m) : tabOf l = tabOf m := by
  refine Nat.eq_of_testBit_eq fun j => ?_
  rw [tabOf_bit, tabOf_bit]; simp [h j]

/-! ### slices of ints in memory -/
/-- v is a slice that reads as zs; it lies below block B -/
def RdInts (w : World) (B : Nat) (v : Value) (zs : List Int) : Prop :=
  ∃ ao cap, v = .slice ao zs.length cap ∧ zs.length ≤ cap ∧ cap ≤ maxLen ∧
    ∀ j, j < zs.length → ∃ b off, ao = some ⟨b, off, none⟩ ∧ b < B ∧ w.cell? ⟨b, off + j, none⟩ = some (.int .i64 (zs.getD j 0))
theorem RdInts.below {w w' : World} {B : Nat} {v : Value} {zs : List Int} (h : RdInts w B v zs) (hb : ∀ k, k < B → w'.heap[k]? = w.heap[k]?) : RdInts w' B v zs := by
  obtain ⟨ao, cap, hv, hl, hm, hc⟩ := h
  refine ⟨ao, cap, hv, hl, hm, fun j hj => ?_⟩
  obtain ⟨b, off, ha, hB, hcell⟩ := hc j hj
  exact ⟨b, off, ha, hB, by rw [← hcell]; exact World.cell?_of_block (w := w) (hb b hB)⟩
theorem RdInts.mono {w : World} {B B' : Nat} {v : Value} {zs : List Int} (h : RdInts w B v zs) (hB : B ≤ B') : RdInts w B' v zs := by
  obtain ⟨ao, cap, hv, hl, hm, hc⟩ := h
  refine ⟨ao, cap, hv, hl, hm, fun j hj => ?_⟩
  obtain ⟨b, off, ha, hb, hcell⟩ := hc j hj
  exact ⟨b, off, ha, by omega, hcell⟩
theorem RdInts.of_own {w : World} {base : Nat} {e : TypeId} {v : Value} {zs : List Int} (h : w.ownsRow base e 1 v zs.length (zs.map (Value.int .i64))) : RdInts w w.heap.size v zs := by
  rcases h.2 with ⟨rfl, hn⟩ | ⟨g, cap, cur, rfl, hb, hg, hnc, hcm, hcs, htake⟩
  · have : zs = [] := List.eq_nil_of_length_eq_zero hn
    subst this
    exact ⟨none, 0, rfl, Nat.le_refl _, by unfold maxLen; omega, fun j hj => by simp at hj⟩
  · refine ⟨_, cap, rfl, hnc, hcm, fun j hj => ⟨g, 0, rfl, (Array.getElem?_eq_some_iff.1 hg).1, ?_⟩⟩
    rw [cell_of_row w g (0 + j) cur e (0, 0) hg]
    have h1 : (zs.map (Value.int .i64))[j]? = some (.int .i64 (zs.getD j 0)) := by
      simp [List.getD, hj]
    rw [← htake, List.getElem?_take] at h1
    split at h1
    · simpa using h1
    · cases h1
theorem RdInts.at {w : World} {B : Nat} {zs : List Int} {ao : Option Addr} {n cap : Nat} (h : RdInts w B (.slice ao n cap) zs) : n = zs.length ∧ zs.length ≤ cap ∧ cap ≤ maxLen ∧
    ∀ j, j < zs.length → ∃ b off, ao = some ⟨b, off, none⟩ ∧ b < B ∧ w.cell? ⟨b, off + j, none⟩ = some (.int .i64 (zs.getD j 0)) := by
  obtain ⟨ao', cap', hv, hl, hm, hc⟩ := h
  cases hv
  exact ⟨rfl, hl, hm, hc⟩
theorem below_block {B : Nat} {w w' : World} (h : Below B w w') {B' : Nat} (hB : B' ≤ B) : ∀ k, k < B' → w'.heap[k]? = w.heap[k]? := fun k hk => h.block k (by omega)
end Go.Proofs.Ytbnickgjnglblaa
