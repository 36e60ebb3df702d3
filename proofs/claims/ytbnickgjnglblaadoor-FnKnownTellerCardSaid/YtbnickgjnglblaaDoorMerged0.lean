/- Texts of a proof, merged: Base, Term, Truth. -/
import Derived.Test.YtbnickgjnglblaaDoorRows
import Derived.WalkKit
import Derived.WalkSpells
import Derived.WalkLawsBesides
import Derived.Lib.Hide
import Derived.BigQuiet
import Derived.Deep.QuietTactic
import Derived.Laws.BitsAllLaws
/- Plain facts: numbers, bits, worlds and tables, and what is said of slices in memory. Nothing here speaks of the program's text. -/
namespace Go.Proofs.YtbnickgjnglblaaDoor
open Go.RowKit

theorem ret_bool {a b : Bool} (h : a = b) : Ending.returned (.bool a) = .returned (.bool b) := by rw [h]
theorem ret_int {k : IntKind} {a b : Int} (h : a = b) : Ending.returned (.int k a) = .returned (.int k b) := by rw [h]
theorem ret_int2 {k k' : IntKind} {a b c d : Int} (h : a = b) (h' : c = d) : Ending.returned (.tuple #[.int k a, .int k' c]) = .returned (.tuple #[.int k b, .int k' d]) := by rw [h, h']

/-! ### bits of an int that is not negative -/
theorem ofInt_nat (a : Nat) (ha : a < 9223372036854775808) : (BitVec.ofInt 64 (a : Int)).toNat = a := by
  rw [BitVec.ofInt_natCast, BitVec.toNat_ofNat]; exact Nat.mod_eq_of_lt (by omega)
theorem bits_and_nat (a b : Nat) (ha : a < 9223372036854775808) (hb : b < 9223372036854775808) :
    bits .and .i64 (a : Int) (b : Int) = ((a &&& b : Nat) : Int) := by
  have hx : a &&& b < 2 ^ 63 := Nat.and_lt_two_pow _ (by omega)
  show IntKind.i64.wrap ((BitVec.ofInt 64 (a : Int) &&& BitVec.ofInt 64 (b : Int)).toNat : Int) = _
  rw [BitVec.toNat_and, ofInt_nat a ha, ofInt_nat b hb, IntKind.wrap_i64]
  omega
theorem bits_or_nat (a b : Nat) (ha : a < 9223372036854775808) (hb : b < 9223372036854775808) :
    bits .or .i64 (a : Int) (b : Int) = ((a ||| b : Nat) : Int) := by
  have hx : a ||| b < 2 ^ 63 := Nat.or_lt_two_pow (by omega) (by omega)
  show IntKind.i64.wrap ((BitVec.ofInt 64 (a : Int) ||| BitVec.ofInt 64 (b : Int)).toNat : Int) = _
  rw [BitVec.toNat_or, ofInt_nat a ha, ofInt_nat b hb, IntKind.wrap_i64]
  omega
theorem bits_xor_nat (a b : Nat) (ha : a < 9223372036854775808) (hb : b < 9223372036854775808) :
    bits .xor .i64 (a : Int) (b : Int) = ((a ^^^ b : Nat) : Int) := by
  have hx : a ^^^ b < 2 ^ 63 := Nat.xor_lt_two_pow (by omega) (by omega)
  show IntKind.i64.wrap ((BitVec.ofInt 64 (a : Int) ^^^ BitVec.ofInt 64 (b : Int)).toNat : Int) = _
  rw [BitVec.toNat_xor, ofInt_nat a ha, ofInt_nat b hb, IntKind.wrap_i64]
  omega
theorem shr_nat (T k : Nat) : (T : Int) / 2 ^ k = ((T >>> k : Nat) : Int) := by
  rw [Nat.shiftRight_eq_div_pow]; simp
theorem bit_mod (T k : Nat) : (T >>> k) % 2 = if T.testBit k then 1 else 0 := by
  rw [Nat.testBit]
  have h : 1 &&& T >>> k = (T >>> k) % 2 := by rw [Nat.and_comm, Nat.and_one_is_mod]
  rw [h]
  have := Nat.mod_two_eq_zero_or_one (T >>> k)
  rcases this with h | h <;> simp [h]
theorem and_one_val {T k : Nat} (hT : T < 9223372036854775808) : bits BinOp.and IntKind.i64 ((T : Int) / 2 ^ k) 1 = if T.testBit k then 1 else 0 := by
  rw [shr_nat]
  have h1 : T >>> k ≤ T := Nat.shiftRight_le T k
  have := bits_and_nat (T >>> k) 1 (by omega) (by decide)
  rw [show ((1 : Nat) : Int) = 1 from rfl] at this
  rw [this, Nat.and_one_is_mod, bit_mod]
  split <;> rfl
theorem and_one_yes {T k : Nat} (hT : T < 9223372036854775808) (h : T.testBit k = true) : (bits BinOp.and IntKind.i64 ((T : Int) / 2 ^ k) 1 == 1) = true := by
  rw [and_one_val hT, h]; rfl
theorem and_one_no {T k : Nat} (hT : T < 9223372036854775808) (h : T.testBit k = false) : (bits BinOp.and IntKind.i64 ((T : Int) / 2 ^ k) 1 == 1) = false := by
  rw [and_one_val hT, h]; rfl
theorem mod_two_val {T k : Nat} : ((T : Int) / 2 ^ k) % 2 = if T.testBit k then 1 else 0 := by
  rw [shr_nat]
  have h := bit_mod T k
  by_cases hb : T.testBit k = true
  · rw [if_pos hb] at h ⊢; omega
  · rw [if_neg hb] at h ⊢; omega

theorem tmod_two_val {T k : Nat} : ((T : Int) / 2 ^ k).tmod 2 = if T.testBit k then 1 else 0 := by
  rw [Int.tmod_eq_emod_of_nonneg (by rw [shr_nat]; exact Int.natCast_nonneg _), mod_two_val]

/-! ### worlds and tables -/
def pOk (p : Int) : Bool := decide (1 ≤ p ∧ p ≤ 4)
def wOk (p w : Int) : Bool := decide (1 ≤ p ∧ p ≤ 4 ∧ 0 ≤ w ∧ w < 2 ^ p.toNat)
def tOk (p t : Int) : Bool := decide (1 ≤ p ∧ p ≤ 4 ∧ 0 ≤ t ∧ t < 2 ^ 2 ^ p.toNat)
theorem p_cases {p : Int} (h1 : 1 ≤ p) (h2 : p ≤ 4) : p = 1 ∨ p = 2 ∨ p = 3 ∨ p = 4 := by omega
theorem wOk_iff {p w : Int} : wOk p w = true ↔ 1 ≤ p ∧ p ≤ 4 ∧ 0 ≤ w ∧ w < 2 ^ p.toNat := by simp [wOk]
theorem tOk_iff {p t : Int} : tOk p t = true ↔ 1 ≤ p ∧ p ≤ 4 ∧ 0 ≤ t ∧ t < 2 ^ 2 ^ p.toNat := by simp [tOk]
theorem wOk_lt {p w : Int} (h : wOk p w = true) : 1 ≤ p ∧ p ≤ 4 ∧ 0 ≤ w ∧ w < 16 := by
  obtain ⟨h1, h2, h3, h4⟩ := wOk_iff.1 h
  rcases p_cases h1 h2 with rfl | rfl | rfl | rfl <;> simp at h4 <;> omega
theorem tOk_lt {p t : Int} (h : tOk p t = true) : 1 ≤ p ∧ p ≤ 4 ∧ 0 ≤ t ∧ t < 65536 := by
  obtain ⟨h1, h2, h3, h4⟩ := tOk_iff.1 h
  rcases p_cases h1 h2 with rfl | rfl | rfl | rfl <;> simp at h4 <;> omega

/-- how many bits of a number below 2 to the 64 are 1 -/
def headsF : Nat → Nat → Nat
  | 0, _ => 0
  | k + 1, n => n % 2 + headsF k (n / 2)
def heads (n : Nat) : Nat := headsF 64 n
theorem headsF_stable : ∀ k n, n < 2 ^ k → headsF (k + 1) n = headsF k n := by
  intro k
  induction k with
  | zero => intro n h; have : n = 0 := by simpa using h
            subst this; rfl
  | succ k ih => intro n h
                 show n % 2 + headsF (k + 1) (n / 2) = n % 2 + headsF k (n / 2)
                 rw [ih (n / 2) (by rw [Nat.pow_succ] at h; omega)]
theorem heads_step (n : Nat) (h : n < 18446744073709551616) : heads n = n % 2 + heads (n / 2) := by
  have := headsF_stable 64 n (by simpa using h)
  unfold heads
  rw [← this]; rfl
theorem headsF_zero (k : Nat) : headsF k 0 = 0 := by
  induction k with
  | zero => rfl
  | succ k ih => show 0 % 2 + headsF k (0 / 2) = 0; simpa using ih
theorem headsF_le (k n : Nat) : headsF k n ≤ n := by
  induction k generalizing n with
  | zero => exact Nat.zero_le _
  | succ k ih => show n % 2 + headsF k (n / 2) ≤ n
                 have := ih (n / 2); omega
theorem heads_le (n : Nat) : heads n ≤ n := headsF_le 64 n

/-- the worlds below n that a table holds, in ascending order -/
def wl (T n : Nat) : List Nat := (List.range n).filter fun i => T.testBit i
theorem wl_le (T n : Nat) : (wl T n).length ≤ n := by
  unfold wl; have := List.length_filter_le (fun i => T.testBit i) (List.range n); simpa using this
theorem wl_succ (T n : Nat) : wl T (n + 1) = wl T n ++ if T.testBit n then [n] else [] := by
  unfold wl; rw [List.range_succ, List.filter_append]; simp [List.filter_cons]
theorem wl_mem {T n i : Nat} : i ∈ wl T n ↔ i < n ∧ T.testBit i = true := by simp [wl]
def vals (l : List Nat) : List Value := l.map fun (i : Nat) => Value.int .i64 i
/-- the same as numbers -/
def nums (l : List Nat) : List Int := l.map fun (i : Nat) => (i : Int)
theorem vals_nums (l : List Nat) : vals l = (nums l).map (Value.int .i64) := by simp [vals, nums]
theorem nums_length (l : List Nat) : (nums l).length = l.length := by simp [nums]

/-- the table of some worlds -/
def tabOf : List Nat → Nat
  | [] => 0
  | i :: r => tabOf r ||| 1 <<< i
theorem tabOf_bit (l : List Nat) (j : Nat) : (tabOf l).testBit j = decide (j ∈ l) := by
  induction l with
  | nil => simp [tabOf]
  | cons i r ih =>
    rw [tabOf, Nat.testBit_or, ih, Nat.one_shiftLeft, Nat.testBit_two_pow]
    by_cases h : j = i
    · subst h; simp
    · have : ¬ i = j := fun e => h e.symm
      simp [h, this]
theorem tabOf_lt (l : List Nat) (n : Nat) (h : ∀ i ∈ l, i < n) : tabOf l < 2 ^ n := by
  refine Nat.lt_pow_two_of_testBit _ fun j hj => ?_
  rw [tabOf_bit]
  simp
  intro hm
  have := h j hm
  omega
theorem testBit_false_of_lt {x j n : Nat} (h : x < 2 ^ n) (hj : n ≤ j) : x.testBit j = false :=
  Nat.testBit_lt_two_pow (Nat.lt_of_lt_of_le h (Nat.pow_le_pow_right (by decide) hj))
theorem bit_ext {x y n : Nat} (hx : x < 2 ^ n) (hy : y < 2 ^ n) (h : ∀ j, j < n → x.testBit j = y.testBit j) : x = y := by
  refine Nat.eq_of_testBit_eq fun j => ?_
  by_cases hj : j < n
  · exact h j hj
  · rw [testBit_false_of_lt hx (by omega), testBit_false_of_lt hy (by omega)]
theorem tabOf_wl {T n : Nat} (h : T < 2 ^ n) : tabOf (wl T n) = T := by
  refine bit_ext (tabOf_lt _ n fun i hi => (wl_mem.1 hi).1) h fun j hj => ?_
  rw [tabOf_bit]
  by_cases hb : T.testBit j = true
  · simp [wl_mem, hj, hb]
  · simp [wl_mem, hb]
theorem tabOf_snoc (l : List Nat) (i : Nat) : tabOf (l ++ [i]) = tabOf l ||| 1 <<< i := by
  refine Nat.eq_of_testBit_eq fun j => ?_
  rw [Nat.testBit_or, tabOf_bit, tabOf_bit, Nat.one_shiftLeft, Nat.testBit_two_pow]
  by_cases h : j = i
  · subst h; simp
  · have : ¬ i = j := fun e => h e.symm
    simp [h, this]
theorem tabOf_ext {l m : List Nat} (h : ∀ j, j ∈ l ↔ j ∈ m) : tabOf l = tabOf m := by
  refine Nat.eq_of_testBit_eq fun j => ?_
  rw [tabOf_bit, tabOf_bit]; simp [h j]

/-! ### slices of ints in memory -/
/-- v is a slice that reads as zs; it lies below block B -/
def RdInts (w : World) (B : Nat) (v : Value) (zs : List Int) : Prop :=
  ∃ ao cap, v = .slice ao zs.length cap ∧ zs.length ≤ cap ∧ cap ≤ maxLen ∧
    ∀ j, j < zs.length → ∃ b off, ao = some ⟨b, off, none⟩ ∧ b < B ∧ w.cell? ⟨b, off + j, none⟩ = some (.int .i64 (zs.getD j 0))
theorem RdInts.below {w w' : World} {B : Nat} {v : Value} {zs : List Int} (h : RdInts w B v zs) (hb : ∀ k, k < B → w'.heap[k]? = w.heap[k]?) : RdInts w' B v zs := by
  obtain ⟨ao, cap, hv, hl, hm, hc⟩ := h
  refine ⟨ao, cap, hv, hl, hm, fun j hj => ?_⟩
  obtain ⟨b, off, ha, hB, hcell⟩ := hc j hj
  exact ⟨b, off, ha, hB, by rw [← hcell]; exact World.cell?_of_block (w := w) (hb b hB)⟩
theorem RdInts.mono {w : World} {B B' : Nat} {v : Value} {zs : List Int} (h : RdInts w B v zs) (hB : B ≤ B') : RdInts w B' v zs := by
  obtain ⟨ao, cap, hv, hl, hm, hc⟩ := h
  refine ⟨ao, cap, hv, hl, hm, fun j hj => ?_⟩
  obtain ⟨b, off, ha, hb, hcell⟩ := hc j hj
  exact ⟨b, off, ha, by omega, hcell⟩
theorem RdInts.of_own {w : World} {base : Nat} {e : TypeId} {v : Value} {zs : List Int} (h : w.ownsRow base e 1 v zs.length (zs.map (Value.int .i64))) : RdInts w w.heap.size v zs := by
  rcases h.2 with ⟨rfl, hn⟩ | ⟨g, cap, cur, rfl, hb, hg, hnc, hcm, hcs, htake⟩
  · have : zs = [] := List.eq_nil_of_length_eq_zero hn
    subst this
    exact ⟨none, 0, rfl, Nat.le_refl _, by unfold maxLen; omega, fun j hj => by simp at hj⟩
  · refine ⟨_, cap, rfl, hnc, hcm, fun j hj => ⟨g, 0, rfl, (Array.getElem?_eq_some_iff.1 hg).1, ?_⟩⟩
    rw [cell_of_row w g (0 + j) cur e (0, 0) hg]
    have h1 : (zs.map (Value.int .i64))[j]? = some (.int .i64 (zs.getD j 0)) := by
      simp [List.getD, hj]
    rw [← htake, List.getElem?_take] at h1
    split at h1
    · simpa using h1
    · cases h1
theorem RdInts.at {w : World} {B : Nat} {zs : List Int} {ao : Option Addr} {n cap : Nat} (h : RdInts w B (.slice ao n cap) zs) : n = zs.length ∧ zs.length ≤ cap ∧ cap ≤ maxLen ∧
    ∀ j, j < zs.length → ∃ b off, ao = some ⟨b, off, none⟩ ∧ b < B ∧ w.cell? ⟨b, off + j, none⟩ = some (.int .i64 (zs.getD j 0)) := by
  obtain ⟨ao', cap', hv, hl, hm, hc⟩ := h
  cases hv
  exact ⟨rfl, hl, hm, hc⟩
theorem below_block {B : Nat} {w w' : World} (h : Below B w w') {B' : Nat} (hB : B' ≤ B) : ∀ k, k < B' → w'.heap[k]? = w.heap[k]? := fun k hk => h.block k (by omega)
end Go.Proofs.YtbnickgjnglblaaDoor
/- Plain facts: rows of marks, the trees that they tell, and what is said of slices of marks in memory. Nothing here speaks of the program's text. -/
namespace Go.Proofs.YtbnickgjnglblaaDoor
open Go.RowKit

/-! ### terms -/
inductive Tm where
  | leaf (k x : Int)
  | un (t : Tm)
  | bin (k : Int) (a b : Tm)
def Tm.post : Tm → List (Int × Int)
  | .leaf k x => [(k, x)]
  | .un t => t.post ++ [(2, 0)]
  | .bin k a b => a.post ++ b.post ++ [(k, 0)]
def Tm.ok (p : Int) : Tm → Prop
  | .leaf k x => (k = 0 ∧ 0 ≤ x ∧ x < p) ∨ (k = 1 ∧ 0 ≤ x ∧ x ≤ p + 1)
  | .un t => t.ok p
  | .bin k a b => 3 ≤ k ∧ k ≤ 5 ∧ a.ok p ∧ b.ok p

/-- one mark read: the parts before it, the last one first; none if it is no mark there -/
def stepS (p : Int) (s : List Tm) (m : Int × Int) : Option (List Tm) :=
  if m.1 = 0 then (if 0 ≤ m.2 ∧ m.2 < p then some (.leaf 0 m.2 :: s) else none)
  else if m.1 = 1 then (if 0 ≤ m.2 ∧ m.2 ≤ p + 1 then some (.leaf 1 m.2 :: s) else none)
  else if m.1 = 2 then (if m.2 = 0 then (match s with | t :: r => some (.un t :: r) | [] => none) else none)
  else if 3 ≤ m.1 ∧ m.1 ≤ 5 then (if m.2 = 0 then (match s with | b :: a :: r => some (.bin m.1 a b :: r) | _ => none) else none)
  else none
def runS (p : Int) : List (Int × Int) → List Tm → Option (List Tm)
  | [], s => some s
  | m :: r, s => (stepS p s m).bind (runS p r)
theorem runS_append (p : Int) (xs ys : List (Int × Int)) (s : List Tm) : runS p (xs ++ ys) s = (runS p xs s).bind (runS p ys) := by
  induction xs generalizing s with
  | nil => rfl
  | cons m r ih =>
    show (stepS p s m).bind (runS p (r ++ ys)) = ((stepS p s m).bind (runS p r)).bind (runS p ys)
    cases h : stepS p s m with
    | none => rfl
    | some s' => exact ih s'
theorem runS_snoc (p : Int) (xs : List (Int × Int)) (m : Int × Int) (s : List Tm) : runS p (xs ++ [m]) s = (runS p xs s).bind fun s' => stepS p s' m := by
  rw [runS_append]
  cases runS p xs s with
  | none => rfl
  | some s' => show (stepS p s' m).bind _ = stepS p s' m
               cases stepS p s' m <;> rfl
/-- the marks of some parts, the last part first -/
def postS : List Tm → List (Int × Int)
  | [] => []
  | t :: r => postS r ++ t.post
theorem stepS_post {p : Int} {s s' : List Tm} {m : Int × Int} (h : stepS p s m = some s') : postS s' = postS s ++ [m] := by
  obtain ⟨k, x⟩ := m
  unfold stepS at h
  dsimp only at h
  split at h
  · rename_i hk; subst hk
    split at h
    · cases h; rfl
    · cases h
  · split at h
    · rename_i hk; subst hk
      split at h
      · cases h; rfl
      · cases h
    · split at h
      · rename_i hk; subst hk
        split at h
        · rename_i hx; subst hx
          split at h
          · cases h; simp [postS, Tm.post]
          · cases h
        · cases h
      · split at h
        · split at h
          · rename_i hx; subst hx
            split at h
            · cases h; simp [postS, Tm.post]
            · cases h
          · cases h
        · cases h
theorem stepS_ok {p : Int} {s s' : List Tm} {m : Int × Int} (h : stepS p s m = some s') (hs : ∀ t ∈ s, t.ok p) : ∀ t ∈ s', t.ok p := by
  obtain ⟨k, x⟩ := m
  unfold stepS at h
  dsimp only at h
  split at h
  · rename_i hk
    split at h
    · rename_i hx; cases h
      intro t ht
      rcases List.mem_cons.1 ht with rfl | ht
      · exact .inl ⟨rfl, hx.1, hx.2⟩
      · exact hs t ht
    · cases h
  · split at h
    · split at h
      · rename_i hx; cases h
        intro t ht
        rcases List.mem_cons.1 ht with rfl | ht
        · exact .inr ⟨rfl, hx.1, hx.2⟩
        · exact hs t ht
      · cases h
    · split at h
      · split at h
        · split at h
          · rename_i u r
            cases h
            intro t ht
            rcases List.mem_cons.1 ht with rfl | ht
            · exact hs u (by simp)
            · exact hs t (by simp [ht])
          · cases h
        · cases h
      · split at h
        · rename_i hk
          split at h
          · split at h
            · rename_i u v r
              cases h
              intro t ht
              rcases List.mem_cons.1 ht with rfl | ht
              · exact ⟨hk.1, hk.2, hs v (by simp), hs u (by simp)⟩
              · exact hs t (by simp [ht])
            · cases h
          · cases h
        · cases h
theorem runS_post {p : Int} : ∀ {ms : List (Int × Int)} {s s' : List Tm}, runS p ms s = some s' → postS s' = postS s ++ ms
  | [], s, s', h => by cases h; simp
  | m :: r, s, s', h => by
    cases hs : stepS p s m with
    | none => simp [runS, hs] at h
    | some s1 =>
      have h' : runS p r s1 = some s' := by simpa [runS, hs] using h
      rw [runS_post h', stepS_post hs]; simp
theorem runS_ok {p : Int} : ∀ {ms : List (Int × Int)} {s s' : List Tm}, runS p ms s = some s' → (∀ t ∈ s, t.ok p) → ∀ t ∈ s', t.ok p
  | [], s, s', h, hs => by cases h; exact hs
  | m :: r, s, s', h, hs => by
    cases h1 : stepS p s m with
    | none => simp [runS, h1] at h
    | some s1 =>
      have h' : runS p r s1 = some s' := by simpa [runS, h1] using h
      exact runS_ok h' (stepS_ok h1 hs)
theorem runS_tm {p : Int} : ∀ (t : Tm) (s : List Tm), t.ok p → runS p t.post s = some (t :: s)
  | .leaf k x, s, h => by
    rcases h with ⟨rfl, h1, h2⟩ | ⟨rfl, h1, h2⟩
    · simp [Tm.post, runS, stepS, h1, h2]
    · simp [Tm.post, runS, stepS, h1, h2]
  | .un t, s, h => by
    show runS p (t.post ++ [(2, 0)]) s = _
    rw [runS_snoc, runS_tm t s h]; rfl
  | .bin k a b, s, h => by
    obtain ⟨h1, h2, ha, hb⟩ := h
    show runS p (a.post ++ b.post ++ [(k, 0)]) s = _
    rw [runS_snoc, runS_append, runS_tm a s ha]
    show (runS p b.post (a :: s)).bind _ = _
    rw [runS_tm b (a :: s) hb]
    show stepS p (b :: a :: s) (k, 0) = _
    unfold stepS
    dsimp only
    rw [if_neg (by omega), if_neg (by omega), if_neg (by omega), if_pos ⟨h1, h2⟩, if_pos rfl]
/-- the term that a row of marks is -/
def termS (p : Int) (ms : List (Int × Int)) : Option Tm := match runS p ms [] with | some [t] => some t | _ => none
theorem termS_some {p : Int} {ms : List (Int × Int)} {t : Tm} : termS p ms = some t ↔ t.ok p ∧ ms = t.post := by
  constructor
  · intro h
    unfold termS at h
    split at h
    · rename_i t' h'
      cases h
      have h1 := runS_post h'
      have h2 := runS_ok h' (by simp) t (by simp)
      exact ⟨h2, by simpa [postS] using h1.symm⟩
    · cases h
  · rintro ⟨h1, rfl⟩
    unfold termS
    rw [runS_tm t [] h1]
theorem post_inj {p : Int} {a b : Tm} (ha : a.ok p) (hb : b.ok p) (h : a.post = b.post) : a = b := by
  have h1 := (termS_some (p := p)).2 ⟨ha, rfl⟩
  have h2 := (termS_some (p := p)).2 ⟨hb, h⟩
  rw [h1] at h2
  simpa using h2
def termOk (p : Int) (ms : List (Int × Int)) : Bool := decide (1 ≤ p ∧ p ≤ 4) && decide (ms.length ≤ 15) && (termS p ms).isSome
theorem termOk_iff {p : Int} {ms : List (Int × Int)} : termOk p ms = true ↔ (1 ≤ p ∧ p ≤ 4) ∧ ms.length ≤ 15 ∧ ∃ t : Tm, t.ok p ∧ ms = t.post := by
  unfold termOk
  rw [Bool.and_eq_true, Bool.and_eq_true, decide_eq_true_eq, decide_eq_true_eq, Option.isSome_iff_exists]
  simp only [termS_some, and_assoc]
/-- how many parts stand, after k marks -/
theorem termOk_of_run {p : Int} {ms : List (Int × Int)} {s : List Tm} (h : runS p ms [] = some s) (h1 : 1 ≤ p) (h2 : p ≤ 4) (hl : ms.length ≤ 15) : termOk p ms = decide (s.length = 1) := by
  unfold termOk termS
  rw [h]
  have e1 : decide (1 ≤ p ∧ p ≤ 4) = true := by simp [h1, h2]
  have e2 : decide (ms.length ≤ 15) = true := by simp [hl]
  rw [e1, e2]
  match s with
  | [] => rfl
  | [t] => rfl
  | a :: b :: r => simp
theorem termOk_no_run {p : Int} {ms : List (Int × Int)} {k : Nat} (h : runS p (ms.take k) [] = none) : termOk p ms = false := by
  have : runS p ms [] = none := by
    rw [← List.take_append_drop k ms, runS_append, h]; rfl
  unfold termOk termS
  rw [this]; simp
theorem termOk_no_len {p : Int} {ms : List (Int × Int)} (h : ¬ ms.length ≤ 15) : termOk p ms = false := by
  unfold termOk; simp [h]
theorem termOk_no_p {p : Int} {ms : List (Int × Int)} (h : ¬ (1 ≤ p ∧ p ≤ 4)) : termOk p ms = false := by
  unfold termOk; simp [h]
theorem take_snoc {α : Type} (d : α) (l : List α) (k : Nat) (h : k < l.length) : l.take (k + 1) = l.take k ++ [l.getD k d] := by
  rw [List.take_succ_eq_append_getElem h]; simp [List.getD, h]
theorem runS_take_succ (p : Int) (ms : List (Int × Int)) (k : Nat) (h : k < ms.length) {s : List Tm} (hs : runS p (ms.take k) [] = some s) :
    runS p (ms.take (k + 1)) [] = stepS p s (ms.getD k (0, 0)) := by
  rw [take_snoc (0, 0) ms k h, runS_snoc, hs]; rfl
theorem stepS_len {p : Int} {s s' : List Tm} {m : Int × Int} (h : stepS p s m = some s') : s'.length ≤ s.length + 1 := by
  obtain ⟨k, x⟩ := m
  unfold stepS at h
  dsimp only at h
  repeat' split at h
  all_goals first | (cases h; simp; done) | (cases h; simp; omega) | cases h
theorem runS_len {p : Int} {ms : List (Int × Int)} {s : List Tm} : ∀ {k : Nat}, k ≤ ms.length → runS p (ms.take k) [] = some s → s.length ≤ k := by
  intro k hk h
  induction k generalizing s with
  | zero => simp [runS] at h; subst h; simp
  | succ k ih =>
    cases h0 : runS p (ms.take k) [] with
    | none => rw [take_snoc (0, 0) ms k (by omega), runS_snoc, h0] at h; cases h
    | some s0 =>
      rw [runS_take_succ p ms k (by omega) h0] at h
      have := stepS_len h
      have := ih (by omega) h0
      omega

/-! ### slices of marks in memory -/
def I64 (x : Int) : Prop := -9223372036854775808 ≤ x ∧ x ≤ 9223372036854775807
def I64s (ms : List (Int × Int)) : Prop := ∀ m ∈ ms, I64 m.1 ∧ I64 m.2
theorem I64s.get {ms : List (Int × Int)} (h : I64s ms) {j : Nat} (hj : j < ms.length) : I64 (ms.getD j (0, 0)).1 ∧ I64 (ms.getD j (0, 0)).2 := by
  have : ms.getD j (0, 0) = ms[j] := by simp [List.getD, hj]
  rw [this]; exact h _ (List.getElem_mem hj)
/-- v is a slice of marks that reads as ms; it lies below block B -/
def RdMarks (w : World) (B : Nat) (v : Value) (ms : List (Int × Int)) : Prop :=
  ∃ ao cap, v = .slice ao ms.length cap ∧ ms.length ≤ cap ∧ cap ≤ maxLen ∧ I64s ms ∧
    ∀ j, j < ms.length → ∃ b off, ao = some ⟨b, off, none⟩ ∧ b < B ∧ w.cell? ⟨b, off + j * 2, none⟩ = some (.int .i64 (ms.getD j (0, 0)).1) ∧ w.cell? ⟨b, off + j * 2 + 1, none⟩ = some (.int .i64 (ms.getD j (0, 0)).2)
theorem RdMarks.below {w w' : World} {B : Nat} {v : Value} {ms : List (Int × Int)} (h : RdMarks w B v ms) (hb : ∀ k, k < B → w'.heap[k]? = w.heap[k]?) : RdMarks w' B v ms := by
  obtain ⟨ao, cap, hv, hl, hm, hi, hc⟩ := h
  refine ⟨ao, cap, hv, hl, hm, hi, fun j hj => ?_⟩
  obtain ⟨b, off, ha, hB, hc1, hc2⟩ := hc j hj
  exact ⟨b, off, ha, hB, by rw [← hc1]; exact World.cell?_of_block (w := w) (hb b hB), by rw [← hc2]; exact World.cell?_of_block (w := w) (hb b hB)⟩
theorem RdMarks.mono {w : World} {B B' : Nat} {v : Value} {ms : List (Int × Int)} (h : RdMarks w B v ms) (hB : B ≤ B') : RdMarks w B' v ms := by
  obtain ⟨ao, cap, hv, hl, hm, hi, hc⟩ := h
  refine ⟨ao, cap, hv, hl, hm, hi, fun j hj => ?_⟩
  obtain ⟨b, off, ha, hb, hc1, hc2⟩ := hc j hj
  exact ⟨b, off, ha, by omega, hc1, hc2⟩
/-- the cells of some marks -/
def mcells : List (Int × Int) → List Value
  | [] => []
  | m :: r => .int .i64 m.1 :: .int .i64 m.2 :: mcells r
theorem mcells_length (ms : List (Int × Int)) : (mcells ms).length = ms.length * 2 := by
  induction ms with
  | nil => rfl
  | cons m r ih => simp [mcells, ih]; omega
theorem mcells_append (xs ys : List (Int × Int)) : mcells (xs ++ ys) = mcells xs ++ mcells ys := by
  induction xs with
  | nil => rfl
  | cons m r ih => simp [mcells, ih]
theorem mcells_get (ms : List (Int × Int)) : ∀ j, j < ms.length → (mcells ms)[j * 2]? = some (.int .i64 (ms.getD j (0, 0)).1) ∧ (mcells ms)[j * 2 + 1]? = some (.int .i64 (ms.getD j (0, 0)).2) := by
  induction ms with
  | nil => intro j hj; simp at hj
  | cons m r ih =>
    intro j hj
    cases j with
    | zero => simp [mcells]
    | succ j =>
      have := ih j (by simpa using hj)
      have e1 : (j + 1) * 2 = j * 2 + 1 + 1 := by omega
      have e2 : (j + 1) * 2 + 1 = j * 2 + 1 + 1 + 1 := by omega
      rw [e1]
      simpa [mcells] using this
theorem mcells_one (ms : List (Int × Int)) : ∀ u ∈ mcells ms, u.oneCell' = true := by
  induction ms with
  | nil => intro u hu; simp [mcells] at hu
  | cons m r ih =>
    intro u hu
    simp only [mcells, List.mem_cons] at hu
    rcases hu with rfl | rfl | hu
    · rfl
    · rfl
    · exact ih u hu
theorem RdMarks.of_own {w : World} {base : Nat} {e : TypeId} {v : Value} {ms : List (Int × Int)} (h : w.ownsRow base e 2 v ms.length (mcells ms)) (hi : I64s ms) : RdMarks w w.heap.size v ms := by
  rcases h.2 with ⟨rfl, hn⟩ | ⟨g, cap, cur, rfl, hb, hg, hnc, hcm, hcs, htake⟩
  · have : ms = [] := List.eq_nil_of_length_eq_zero hn
    subst this
    exact ⟨none, 0, rfl, Nat.le_refl _, by unfold maxLen; omega, hi, fun j hj => by simp at hj⟩
  · refine ⟨_, cap, rfl, hnc, hcm, hi, fun j hj => ⟨g, 0, rfl, (Array.getElem?_eq_some_iff.1 hg).1, ?_, ?_⟩⟩
    · rw [cell_of_row w g (0 + j * 2) cur e (0, 0) hg]
      have h1 := (mcells_get ms j hj).1
      rw [← htake, List.getElem?_take] at h1
      split at h1
      · simpa using h1
      · cases h1
    · rw [cell_of_row w g (0 + j * 2 + 1) cur e (0, 0) hg]
      have h1 := (mcells_get ms j hj).2
      rw [← htake, List.getElem?_take] at h1
      split at h1
      · simpa using h1
      · cases h1
end Go.Proofs.YtbnickgjnglblaaDoor
/- What holds: terms in worlds, tables of terms, what follows, who matters: the mathematics, without code. -/
namespace Go.Proofs.YtbnickgjnglblaaDoor
open Go.RowKit

/-- a term in a world -/
def holds (w : Nat) : Tm → Bool
  | .leaf k x => if k = 0 then w.testBit x.toNat else decide (x ≤ (heads w : Int))
  | .un t => !holds w t
  | .bin k a b => if k = 3 then holds w a && holds w b else if k = 4 then holds w a || holds w b else holds w a == holds w b
/-- the term that a row of marks is -/
def tmOf (p : Int) (ms : List (Int × Int)) : Tm := (termS p ms).getD (.leaf 1 0)
theorem tmOf_post {p : Int} {t : Tm} (ht : t.ok p) : tmOf p t.post = t := by
  unfold tmOf
  rw [(termS_some (p := p)).2 ⟨ht, rfl⟩]; rfl
def holdsV (p : Int) (ms : List (Int × Int)) (x : Int) : Bool := termOk p ms && wOk p x && holds x.toNat (tmOf p ms)
/-- the table of what f says, of N worlds -/
def tabF (N : Nat) (f : Nat → Bool) : Nat := tabOf ((List.range N).filter f)
theorem tabF_bit (N : Nat) (f : Nat → Bool) (j : Nat) : (tabF N f).testBit j = (decide (j < N) && f j) := by
  unfold tabF
  rw [tabOf_bit, Bool.eq_iff_iff]
  simp
theorem tabF_lt (N : Nat) (f : Nat → Bool) : tabF N f < 2 ^ N := tabOf_lt _ N (fun i hi => by simp at hi; exact hi.1)
theorem tabF_ext {N : Nat} {f g : Nat → Bool} : tabF N f = tabF N g ↔ ∀ j, j < N → f j = g j := by
  constructor
  · intro h j hj
    have := congrArg (fun x => x.testBit j) h
    simpa [tabF_bit, hj] using this
  · intro h
    refine bit_ext (tabF_lt N f) (tabF_lt N g) (fun j hj => ?_)
    rw [tabF_bit, tabF_bit, h j hj]
theorem tabF_succ (N : Nat) (f : Nat → Bool) : tabF (N + 1) f = if f N then tabF N f ||| 1 <<< N else tabF N f := by
  unfold tabF
  rw [List.range_succ, List.filter_append]
  by_cases h : f N = true
  · rw [if_pos h, ← tabOf_snoc]; simp [h]
  · rw [if_neg h]; simp [h]
def tabV (p : Int) (ms : List (Int × Int)) : Int := if termOk p ms = true then (tabF (2 ^ p.toNat) (fun w => holds w (tmOf p ms)) : Int) else -1
def sameV (p : Int) (a b : List (Int × Int)) : Bool := termOk p a && termOk p b && decide (tabV p a = tabV p b)
def followsV (p : Int) (a b : List (Int × Int)) : Bool := termOk p a && termOk p b && decide (∀ w, w < 2 ^ p.toNat → holds w (tmOf p a) = true → holds w (tmOf p b) = true)
def alwaysV (p : Int) (ms : List (Int × Int)) : Bool := termOk p ms && decide (∀ w, w < 2 ^ p.toNat → holds w (tmOf p ms) = true)
def matters (p : Int) (t : Tm) (k : Nat) : Bool := decide (∃ w, w < 2 ^ p.toNat ∧ holds w t ≠ holds (w ^^^ 1 <<< k) t)
def matterN (p : Int) (t : Tm) : Nat := tabF p.toNat (matters p t)
def matterV (p : Int) (ms : List (Int × Int)) : Int := if termOk p ms = true then (matterN p (tmOf p ms) : Int) else -1
theorem tabV_no {p : Int} {ms : List (Int × Int)} (h : termOk p ms = false) : tabV p ms = -1 := by simp [tabV, h]
theorem tabV_yes {p : Int} {ms : List (Int × Int)} (h : termOk p ms = true) : tabV p ms = (tabF (2 ^ p.toNat) (fun w => holds w (tmOf p ms)) : Int) := by simp [tabV, h]
theorem tabV_eq {p : Int} {a b : List (Int × Int)} (ha : termOk p a = true) (hb : termOk p b = true) : tabV p a = tabV p b ↔ ∀ w, w < 2 ^ p.toNat → holds w (tmOf p a) = holds w (tmOf p b) := by
  rw [tabV_yes ha, tabV_yes hb, ← tabF_ext]
  omega
/-! ### rows put together -/
theorem termOk_un {p : Int} {a : List (Int × Int)} (ha : termOk p a = true) : termOk p (a ++ [(2, 0)]) = decide (a.length ≤ 14) := by
  obtain ⟨hp, hl, t, ht, rfl⟩ := termOk_iff.1 ha
  have he : t.post ++ [((2 : Int), (0 : Int))] = (Tm.un t).post := rfl
  by_cases h : t.post.length ≤ 14
  · rw [he, decide_eq_true h]
    exact termOk_iff.2 ⟨hp, by simp [Tm.post]; omega, .un t, by simpa only [Tm.ok] using ht, rfl⟩
  · rw [decide_eq_false h]
    exact termOk_no_len (by simp; omega)
theorem tmOf_un {p : Int} {a : List (Int × Int)} (ha : termOk p a = true) : tmOf p (a ++ [(2, 0)]) = .un (tmOf p a) := by
  obtain ⟨hp, hl, t, ht, rfl⟩ := termOk_iff.1 ha
  have he : t.post ++ [((2 : Int), (0 : Int))] = (Tm.un t).post := rfl
  rw [tmOf_post ht, he, tmOf_post (by simpa only [Tm.ok] using ht)]
theorem termOk_bin {p k : Int} {a b : List (Int × Int)} (hk : 3 ≤ k ∧ k ≤ 5) (ha : termOk p a = true) (hb : termOk p b = true) : termOk p (a ++ b ++ [(k, 0)]) = decide (a.length + b.length ≤ 14) := by
  obtain ⟨hp, hl, t, ht, rfl⟩ := termOk_iff.1 ha
  obtain ⟨_, _, u, hu, rfl⟩ := termOk_iff.1 hb
  have he : t.post ++ u.post ++ [((k : Int), (0 : Int))] = (Tm.bin k t u).post := rfl
  by_cases h : t.post.length + u.post.length ≤ 14
  · rw [he, decide_eq_true h]
    exact termOk_iff.2 ⟨hp, by simp [Tm.post]; omega, .bin k t u, by simp only [Tm.ok]; exact ⟨hk.1, hk.2, ht, hu⟩, rfl⟩
  · rw [decide_eq_false h]
    exact termOk_no_len (by simp; omega)
theorem tmOf_bin {p k : Int} {a b : List (Int × Int)} (hk : 3 ≤ k ∧ k ≤ 5) (ha : termOk p a = true) (hb : termOk p b = true) : tmOf p (a ++ b ++ [(k, 0)]) = .bin k (tmOf p a) (tmOf p b) := by
  obtain ⟨hp, hl, t, ht, rfl⟩ := termOk_iff.1 ha
  obtain ⟨_, _, u, hu, rfl⟩ := termOk_iff.1 hb
  have he : t.post ++ u.post ++ [((k : Int), (0 : Int))] = (Tm.bin k t u).post := rfl
  rw [tmOf_post ht, tmOf_post hu, he, tmOf_post (by simp only [Tm.ok]; exact ⟨hk.1, hk.2, ht, hu⟩)]
theorem termOk_count {p x : Int} (hp : 1 ≤ p ∧ p ≤ 4) (hx : 0 ≤ x ∧ x ≤ p + 1) : termOk p [(1, x)] = true :=
  termOk_iff.2 ⟨hp, by simp, .leaf 1 x, by simp only [Tm.ok]; right; refine ⟨trivial, hx.1, ?_⟩; omega, rfl⟩
theorem tmOf_count {p x : Int} (_hp : 1 ≤ p ∧ p ≤ 4) (hx : 0 ≤ x ∧ x ≤ p + 1) : tmOf p [(1, x)] = .leaf 1 x :=
  tmOf_post (t := .leaf 1 x) (by simp only [Tm.ok]; right; refine ⟨trivial, hx.1, ?_⟩; omega)
/-! ### the laws of what holds -/
theorem holds_un (w : Nat) (t : Tm) : holds w (.un t) = !holds w t := by rw [holds]
theorem holds_and (w : Nat) (a b : Tm) : holds w (.bin 3 a b) = (holds w a && holds w b) := by rw [holds, if_pos rfl]
theorem holds_or (w : Nat) (a b : Tm) : holds w (.bin 4 a b) = (holds w a || holds w b) := by rw [holds, if_neg (by decide), if_pos rfl]
theorem holds_same (w : Nat) (a b : Tm) : holds w (.bin 5 a b) = (holds w a == holds w b) := by rw [holds, if_neg (by decide), if_neg (by decide)]
theorem holds_none (w : Nat) : holds w (.leaf 1 0) = true := by rw [holds, if_neg (by decide)]; simp
theorem same_follows {p : Int} {a b : List (Int × Int)} (ha : termOk p a = true) (hb : termOk p b = true) : sameV p a b = (followsV p a b && followsV p b a) := by
  unfold sameV followsV
  rw [ha, hb]
  simp only [Bool.true_and]
  rw [← Bool.decide_and, decide_eq_decide, tabV_eq ha hb]
  constructor
  · intro h
    exact ⟨fun w hw h1 => by rw [← h w hw]; exact h1, fun w hw h1 => by rw [h w hw]; exact h1⟩
  · rintro ⟨h1, h2⟩ w hw
    rw [Bool.eq_iff_iff]
    exact ⟨h1 w hw, h2 w hw⟩
theorem same_always {p : Int} {a b : List (Int × Int)} (ha : termOk p a = true) (hb : termOk p b = true) (h : termOk p (a ++ b ++ [(5, 0)]) = true) : alwaysV p (a ++ b ++ [(5, 0)]) = sameV p a b := by
  unfold alwaysV sameV
  rw [ha, hb, h, tmOf_bin (by omega) ha hb]
  simp only [Bool.true_and]
  rw [decide_eq_decide, tabV_eq ha hb]
  simp only [holds_same, beq_iff_eq]
theorem same_refl {p : Int} {a : List (Int × Int)} (ha : termOk p a = true) : sameV p a a = true := by simp [sameV, ha]
theorem follows_or {p : Int} {a b : List (Int × Int)} (ha : termOk p a = true) (hb : termOk p b = true) (h : termOk p (a ++ b ++ [(4, 0)]) = true) : sameV p (a ++ b ++ [(4, 0)]) b = followsV p a b := by
  unfold followsV sameV
  rw [ha, hb, h]
  simp only [Bool.true_and]
  rw [decide_eq_decide, tabV_eq h hb, tmOf_bin (by omega) ha hb]
  simp only [holds_or]
  refine forall_congr' fun w => forall_congr' fun _ => ?_
  cases holds w (tmOf p a) <;> cases holds w (tmOf p b) <;> simp
theorem follows_refl {p : Int} {a : List (Int × Int)} (ha : termOk p a = true) : followsV p a a = true := by simp [followsV, ha]
theorem p_of {p : Int} {a : List (Int × Int)} (ha : termOk p a = true) : 1 ≤ p ∧ p ≤ 4 := (termOk_iff.1 ha).1
theorem follows_none {p : Int} {a : List (Int × Int)} (ha : termOk p a = true) : followsV p a [(1, 0)] = true := by
  have hp := p_of ha
  unfold followsV
  rw [ha, termOk_count hp (by omega), tmOf_count hp (by omega)]
  simp [holds_none]
theorem always_none {p : Int} (hp : 1 ≤ p ∧ p ≤ 4) : alwaysV p [(1, 0)] = true := by
  unfold alwaysV
  rw [termOk_count hp (by omega), tmOf_count hp (by omega)]
  simp [holds_none]
theorem not_holds {p : Int} {a : List (Int × Int)} (ha : termOk p a = true) (h : termOk p (a ++ [(2, 0)]) = true) {x : Int} (hx : wOk p x = true) : holdsV p (a ++ [(2, 0)]) x = !holdsV p a x := by
  unfold holdsV
  rw [ha, h, hx, tmOf_un ha, holds_un]
  simp
/-- neither is both not -/
theorem not_either {p : Int} {a b : List (Int × Int)} (ha : termOk p a = true) (hb : termOk p b = true) (h1 : termOk p (a ++ b ++ [(4, 0)] ++ [(2, 0)]) = true) (h2 : termOk p (a ++ [(2, 0)] ++ (b ++ [(2, 0)]) ++ [(3, 0)]) = true) : sameV p (a ++ b ++ [(4, 0)] ++ [(2, 0)]) (a ++ [(2, 0)] ++ (b ++ [(2, 0)]) ++ [(3, 0)]) = true := by
  have hl1 := (termOk_iff.1 h1).2.1
  have hl2 := (termOk_iff.1 h2).2.1
  simp only [List.length_append, List.length_cons, List.length_nil] at hl1 hl2
  have h3 : termOk p (a ++ b ++ [(4, 0)]) = true := by rw [termOk_bin (by omega) ha hb]; simp; omega
  have h4 : termOk p (a ++ [(2, 0)]) = true := by rw [termOk_un ha]; simp; omega
  have h5 : termOk p (b ++ [(2, 0)]) = true := by rw [termOk_un hb]; simp; omega
  unfold sameV
  rw [h1, h2]
  simp only [Bool.true_and]
  rw [decide_eq_true_eq, tabV_eq h1 h2, tmOf_un h3, tmOf_bin (by omega) ha hb, tmOf_bin (by omega) h4 h5, tmOf_un ha, tmOf_un hb]
  intro w _
  rw [holds_un, holds_or, holds_and, holds_un, holds_un]
  simp
end Go.Proofs.YtbnickgjnglblaaDoor
