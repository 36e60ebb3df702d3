/- Texts of a proof, merged: MajL, Claim, ClaimS, ClaimT, Concat. -/
import Derived.Test.YtbnickgjnglblaaDoorMerged2
import Derived.Test.YtbnickgjnglblaaDoorMerged8
import Derived.Test.YtbnickgjnglblaaDoorMerged9
import Derived.Test.YtbnickgjnglblaaDoorMerged7
import Derived.Deep.RegionHeld3
import Derived.Deep.Cut
import Derived.OwnWalk
import Derived.Maps.AppendAt
import Derived.Lib.AppendZeros
/- Asking for a teller: the mathematics of the laws. -/
namespace Go.Proofs.YtbnickgjnglblaaDoor
open Go.RowKit
theorem tOk_nat {P T : Nat} (h1 : 1 ≤ P) (h4 : P ≤ 4) (hT : T < 2 ^ 2 ^ P) : tOk (P : Int) (T : Int) = true :=
  tOk_iff.2 ⟨by omega, by omega, by omega, by rw [Int.toNat_natCast]; exact_mod_cast hT⟩
theorem tOk_parts {p t : Int} (h : tOk p t = true) : ∃ P T : Nat, p = P ∧ t = T ∧ 1 ≤ P ∧ P ≤ 4 ∧ T < 2 ^ 2 ^ P ∧ T < 65536 := by
  obtain ⟨h1, h4, h3, h5⟩ := tOk_lt h
  obtain ⟨P, rfl⟩ := Int.eq_ofNat_of_zero_le (show 0 ≤ p by omega)
  obtain ⟨T, rfl⟩ := Int.eq_ofNat_of_zero_le h3
  obtain ⟨_, _, _, h⟩ := tOk_iff.1 h
  rw [Int.toNat_natCast] at h
  exact ⟨P, T, rfl, rfl, by omega, by omega, by exact_mod_cast h, by omega⟩
theorem nums_nat (l : List Nat) : (nums l).map Int.toNat = l := by
  unfold nums
  rw [List.map_map]
  conv => rhs; rw [← List.map_id l]
  rfl
theorem nums_at (l : List Nat) {j : Nat} (hj : j < l.length) : (nums l).getD j 0 = ((l[j] : Nat) : Int) := by simp [nums, List.getD, hj]
theorem tabOf_sub {l : List Nat} {T N : Nat} (h : ∀ i ∈ l, i ∈ wl T N) : Sub (tabOf l) T := fun w hw => by
  rw [tabOf_bit, decide_eq_true_eq] at hw
  exact (wl_mem.1 (h w hw)).2
/-- the table without its last world -/
def lessN (T N : Nat) : Nat := tabOf (wl T N).dropLast
theorem less_sub (T N : Nat) : Sub (lessN T N) T := tabOf_sub fun _ hi => (List.dropLast_sublist _).subset hi
theorem less_lt (T N : Nat) : lessN T N < 2 ^ N := tabOf_lt _ N fun _ hi => (wl_mem.1 ((List.dropLast_sublist _).subset hi)).1
theorem less_ne {T N : Nat} (h : 2 ≤ (wl T N).length) : lessN T N ≠ 0 := by
  intro h0
  have hl : (wl T N).dropLast.length = (wl T N).length - 1 := List.length_dropLast
  have hp : 0 < (wl T N).dropLast.length := by omega
  have hm := List.getElem_mem hp
  have : (lessN T N).testBit (wl T N).dropLast[0] = true := by
    unfold lessN
    rw [tabOf_bit, decide_eq_true_eq]; exact hm
  rw [h0] at this
  simp at this
theorem less_tow {P T : Nat} (h1 : 1 ≤ P) (h4 : P ≤ 4) : tow (P : Int) (nums (wl T (2 ^ P)).dropLast) = (lessN T (2 ^ P) : Int) := by
  rw [tow_yes (by simp [pOk]; omega) (fun j hj => ?_), nums_nat]
  · rfl
  · rw [nums_length] at hj
    have hm := List.getElem_mem hj
    have hlt := (wl_mem.1 ((List.dropLast_sublist _).subset hm)).1
    rw [nums_at _ hj]
    refine wOk_iff.2 ⟨by omega, by omega, by omega, ?_⟩
    rw [Int.toNat_natCast]
    exact_mod_cast hlt
theorem wl_none {T N : Nat} (hT : T < 2 ^ N) (h : (wl T N).length = 0) : T = 0 := by
  have := tabOf_wl hT
  rw [List.eq_nil_of_length_eq_zero h] at this
  exact this.symm
theorem wl_at {T N j : Nat} (hj : j < (wl T N).length) : (wl T N).getD j 0 < N ∧ T.testBit ((wl T N).getD j 0) = true := by
  rw [show (wl T N).getD j 0 = (wl T N)[j] by simp [List.getD, hj]]
  exact wl_mem.1 (List.getElem_mem hj)
/-! ### who is known -/
theorem ktV_low (p t : Int) : -1 ≤ ktV p t := by
  unfold ktV
  split
  · exact firstN_low _ _
  · omega
theorem kt_parts {p t : Int} (h : 0 ≤ ktV p t) : ∃ P T n : Nat, p = P ∧ t = T ∧ ktV p t = n ∧ 1 ≤ P ∧ P ≤ 4 ∧ T < 2 ^ 2 ^ P ∧ T < 65536 ∧ n < P ∧ T ≠ 0 ∧ telB P T n = true ∧ tOk p t = true := by
  cases ht : (tOk p t && decide (t ≠ 0)) with
  | false => unfold ktV at h; rw [ht] at h; simp at h
  | true =>
    rw [Bool.and_eq_true, decide_eq_true_eq] at ht
    obtain ⟨P, T, rfl, rfl, h1, h4, hT, h6⟩ := tOk_parts ht.1
    have e : ktV (P : Int) (T : Int) = telN P T := by unfold ktV; rw [ht.1, decide_eq_true ht.2]; rfl
    rw [e] at h ⊢
    obtain ⟨n, hn, e2, hb, _⟩ := firstN_ge h
    exact ⟨P, T, n, rfl, rfl, e2, h1, h4, hT, h6, hn, fun e => ht.2 (by rw [e]; rfl), hb, ht.1⟩
theorem kt_ge {P T k : Nat} (h1 : 1 ≤ P) (h4 : P ≤ 4) (hT : T < 2 ^ 2 ^ P) (h0 : T ≠ 0) (hk : k < P) (hb : telB P T k = true) : 0 ≤ ktV (P : Int) (T : Int) ∧ ktV (P : Int) (T : Int) ≤ k := by
  have e : ktV (P : Int) (T : Int) = telN P T := by
    unfold ktV
    rw [tOk_nat h1 h4 hT, decide_eq_true (show (T : Int) ≠ 0 by omega)]; rfl
  rw [e]
  exact firstN_le hk hb
theorem kt_less {P T k : Nat} (h1 : 1 ≤ P) (h4 : P ≤ 4) (h2 : 2 ≤ (wl T (2 ^ P)).length) (hk : k < P) (hb : telB P T k = true) : 0 ≤ ktV (P : Int) (lessN T (2 ^ P) : Int) ∧ ktV (P : Int) (lessN T (2 ^ P) : Int) ≤ k :=
  kt_ge h1 h4 (less_lt _ _) (less_ne h2) hk (telB_iff.2 fun w hw hbw => telB_iff.1 hb w hw (less_sub T _ w hbw))
theorem kt_bits {P T k j : Nat} (hb : telB P T k = true) (hj : j < (wl T (2 ^ P)).length) : ((wl T (2 ^ P)).getD j 0).testBit k = true := telB_iff.1 hb _ (wl_at hj).1 (wl_at hj).2
/-! ### what is answered -/
theorem askV_low (p t i j : Int) (s : Bool) : -1 ≤ askV p t i j s := by
  unfold askV
  split <;> omega
theorem ask_parts {p t i j : Int} {s : Bool} (h : 0 ≤ askV p t i j s) : ∃ P T I J : Nat, p = P ∧ t = T ∧ i = I ∧ j = J ∧ 1 ≤ P ∧ P ≤ 4 ∧ T < 2 ^ 2 ^ P ∧ T < 65536 ∧ I < P ∧ J < P ∧ (∀ s', askV p t i j s' = (askN P T I J s' : Int)) ∧ (∀ s', askV p t j i s' = (askN P T J I s' : Int)) ∧ tOk p t = true := by
  cases ht : (tOk p t && (decide (0 ≤ i ∧ i < p) && decide (0 ≤ j ∧ j < p))) with
  | false => unfold askV at h; rw [ht] at h; simp at h
  | true =>
    rw [Bool.and_eq_true, Bool.and_eq_true, decide_eq_true_eq, decide_eq_true_eq] at ht
    obtain ⟨ht0, hi, hj⟩ := ht
    obtain ⟨P, T, rfl, rfl, h1, h4, hT, h6⟩ := tOk_parts ht0
    obtain ⟨I, rfl⟩ := Int.eq_ofNat_of_zero_le hi.1
    obtain ⟨J, rfl⟩ := Int.eq_ofNat_of_zero_le hj.1
    refine ⟨P, T, I, J, rfl, rfl, rfl, rfl, h1, h4, hT, h6, by omega, by omega, fun s' => ?_, fun s' => ?_, ht0⟩
    · unfold askV; rw [ht0, decide_eq_true hi, decide_eq_true hj]; rfl
    · unfold askV; rw [ht0, decide_eq_true hi, decide_eq_true hj]; rfl
theorem ask_swap (P T I J : Nat) (s : Bool) : askN P T J I s = askN P T I J s := by
  unfold askN
  rw [tabF_ext]
  intro w _
  rw [show (w.testBit J == w.testBit I) = (w.testBit I == w.testBit J) from Bool.beq_comm]
theorem ask_and (P T I J : Nat) (s : Bool) : askN P T I J s &&& askN P T I J (!s) = 0 := by
  refine zero_of_none fun w => ?_
  rw [Nat.testBit_and]
  cases h1 : (askN P T I J s).testBit w with
  | false => rfl
  | true =>
    cases h2 : (askN P T I J (!s)).testBit w with
    | false => rfl
    | true =>
      have a := (ask_bit.1 h1).2.2
      have b := (ask_bit.1 h2).2.2
      rw [a] at b
      cases s <;> cases b
theorem ask_or {P T I J : Nat} (s : Bool) (hT : T < 2 ^ 2 ^ P) : askN P T I J s ||| askN P T I J (!s) = T := by
  refine bit_ext (n := 2 ^ P) (Nat.or_lt_two_pow (ask_lt _ _ _ _ _) (ask_lt _ _ _ _ _)) hT fun w hw => ?_
  rw [Nat.testBit_or, Bool.eq_iff_iff, Bool.or_eq_true, ask_bit, ask_bit]
  constructor
  · rintro (⟨_, h, _⟩ | ⟨_, h, _⟩) <;> exact h
  · intro h
    by_cases he : (w.testBit I == w.testBit J) = s
    · exact .inl ⟨hw, h, he⟩
    · refine .inr ⟨hw, h, ?_⟩
      cases s <;> cases hx : (w.testBit I == w.testBit J) <;> simp [hx] at he ⊢
theorem leaf_parts {p l : Int} (h1 : 1 ≤ p) (h4 : p ≤ 4) (hl : 0 ≤ l ∧ l < p) : termOk p [(0, l)] = true ∧ tmOf p [(0, l)] = .leaf 0 l := by
  have ok0 : (Tm.leaf 0 l).ok p := by simp only [Tm.ok]; exact .inl ⟨by trivial, hl.1, hl.2⟩
  exact ⟨termOk_iff.2 ⟨by first | omega | exact ⟨by omega, by omega⟩ | (simp [pOk]; omega), by simp, .leaf 0 l, ok0, rfl⟩, tmOf_post (t := .leaf 0 l) ok0⟩
/-- the person I answers yes to whether J tells the truth just where both are alike -/
theorem ans_alike13 {P T I J j : Nat} {s : Bool} (h1 : 1 ≤ P) (h4 : P ≤ 4) (hI : I < P) (hJ : J < P) (hj : j < (wl (askN P T I J s) (2 ^ P)).length) :
    ansN (P : Int) (I : Int) [(0, (J : Int))] (((wl (askN P T I J s) (2 ^ P)).getD j 0 : Nat) : Int) = if s then 1 else 0 := by
  obtain ⟨hlt, hb⟩ := wl_at hj
  generalize (wl (askN P T I J s) (2 ^ P)).getD j 0 = W at *
  obtain ⟨ht, hm⟩ := leaf_parts (p := (P : Int)) (l := (J : Int)) (by omega) (by omega) ⟨by omega, by omega⟩
  have hw : wOk (P : Int) (W : Int) = true := wOk_iff.2 ⟨by omega, by omega, by omega, by rw [Int.toNat_natCast]; exact_mod_cast hlt⟩
  have hin : inOk (P : Int) (I : Int) = true := by unfold inOk; exact decide_eq_true ⟨by omega, by omega⟩
  rw [ansN_yes ht hw hin]
  have hx := (ask_bit.1 hb).2.2
  unfold mayT
  rw [hm]
  show (if (((W : Int).toNat.testBit (I : Int).toNat) == holds (W : Int).toNat (.leaf 0 (J : Int))) = true then (1 : Int) else 0) = _
  rw [Int.toNat_natCast, Int.toNat_natCast]
  have hh : holds W (.leaf 0 (J : Int)) = W.testBit J := by simp [holds]
  rw [hh, hx]
/-! ### the least number of questions -/
theorem least_low (p t : Int) : -1 ≤ leastV p t := by
  unfold leastV
  split
  · exact lv_low _ _ _
  · omega
theorem least_parts {P T : Nat} (ht : tOk (P : Int) (T : Int) = true) : leastV (P : Int) (T : Int) = lv P P T := by unfold leastV; rw [ht]; simp
theorem least_zero {P T : Nat} (h1 : 1 ≤ P) (h4 : P ≤ 4) (hT : T < 2 ^ 2 ^ P) : lv P P T = 0 ↔ T = 0 ∨ 0 ≤ ktV (P : Int) (T : Int) := by
  rw [lv_eq_zero, done0_tel]
  by_cases h0 : T = 0
  · simp [h0]
  · have e : ktV (P : Int) (T : Int) = telN P T := by
      unfold ktV
      rw [tOk_nat h1 h4 hT, decide_eq_true (show (T : Int) ≠ 0 by omega)]; rfl
    rw [e]
theorem heads_two : ∀ p : Fin 5, 1 ≤ p.val → ∀ w : Fin 16, w.val < 2 ^ p.val → heads (2 ^ p.val - 1 - w.val) + heads w.val = p.val := by decide +kernel
theorem maj_good {P T : Nat} (h1 : 1 ≤ P) (h4 : P ≤ 4) (h : Sub T (majN P)) : ¬ Bad P T := by
  intro hb
  rcases bad_sub h hb with h0 | ⟨w, hw, ha, hc⟩
  · have := (maj_bit.1 h0).2
    have e : heads 0 = 0 := by decide +kernel
    omega
  · have a := (maj_bit.1 ha).2
    have b := (maj_bit.1 hc).2
    have h16 : w < 16 := by
      have : 2 ^ P ≤ 2 ^ 4 := Nat.pow_le_pow_right (by decide) h4
      omega
    have := heads_two ⟨P, by omega⟩ h1 ⟨w, h16⟩ hw
    dsimp only at this
    omega
theorem maj_less {P T : Nat} (h1 : 1 ≤ P) (h4 : P ≤ 4) (hT : T < 2 ^ 2 ^ P) (h : Sub T (majN P)) : 0 ≤ lv P P T := (lv_ge_iff (by omega) hT).2 (maj_good h1 h4 h)
theorem turned_own {P T : Nat} (hT : T < 2 ^ 2 ^ P) (h0 : T ≠ 0) (h : turned T (2 ^ P) (2 ^ P) = T) : Bad P T := by
  have hl : (wl T (2 ^ P)).length ≠ 0 := fun e => h0 (wl_none hT e)
  obtain ⟨a, b⟩ := wl_at (T := T) (N := 2 ^ P) (j := 0) (by omega)
  generalize (wl T (2 ^ P)).getD 0 0 = w at *
  refine .inr ⟨w, a, b, ?_⟩
  have : (turned T (2 ^ P) (2 ^ P)).testBit (2 ^ P - 1 - w) = true := by
    unfold turned
    rw [tabOf_bit, decide_eq_true_eq]
    exact List.mem_map.2 ⟨w, wl_mem.2 ⟨a, b⟩, rfl⟩
  rw [h] at this
  exact this
theorem own_never {P T : Nat} (h1 : 1 ≤ P) (hT : T < 2 ^ 2 ^ P) (h0 : T ≠ 0) (h : turned T (2 ^ P) (2 ^ P) = T) : lv P P T = -1 := by
  have a := lv_low P P T
  have b : ¬ 0 ≤ lv P P T := fun hge => (lv_ge_iff (by omega) hT).1 hge (turned_own hT h0 h)
  omega
theorem lv_lessN {P T : Nat} (h : 0 ≤ lv P P T) : 0 ≤ lv P P (lessN T (2 ^ P)) ∧ lv P P (lessN T (2 ^ P)) ≤ lv P P T := lv_sub P (less_sub T _) h
theorem bits_andNot13 (a b : Nat) (ha : a < 9223372036854775808) (hb : b < 9223372036854775808) :
    bits .andNot .i64 (a : Int) (b : Int) = ((a ^^^ (a &&& b) : Nat) : Int) := by
  have hx : a ^^^ (a &&& b) < 2 ^ 63 := Nat.xor_lt_two_pow (by omega) (Nat.and_lt_two_pow _ (by omega))
  have hy : (BitVec.ofInt 64 (a : Int) &&& ~~~ BitVec.ofInt 64 (b : Int)).toNat = a ^^^ (a &&& b) := by
    refine Nat.eq_of_testBit_eq fun i => ?_
    rw [BitVec.testBit_toNat, BitVec.getLsbD_and, BitVec.getLsbD_not, ← BitVec.testBit_toNat, ← BitVec.testBit_toNat, ofInt_nat a ha, ofInt_nat b hb, Nat.testBit_xor, Nat.testBit_and]
    by_cases hi : i < 64
    · simp [hi]
      cases a.testBit i <;> cases b.testBit i <;> rfl
    · have : a.testBit i = false := Nat.testBit_lt_two_pow (Nat.lt_of_lt_of_le (show a < 2 ^ 63 by omega) (Nat.pow_le_pow_right (by decide) (by omega)))
      simp [this]
  show IntKind.i64.wrap ((BitVec.ofInt 64 (a : Int) &&& ~~~ BitVec.ofInt 64 (b : Int)).toNat : Int) = _
  rw [hy, IntKind.wrap_i64]
  omega
theorem sub_of_andNot {T M : Nat} (h : T ^^^ (T &&& M) = 0) : Sub T M := fun j hj => by
  have := congrArg (fun x => x.testBit j) h
  simp only [Nat.testBit_xor, Nat.testBit_and, Nat.zero_testBit, hj, Bool.true_and] at this
  cases hm : M.testBit j with
  | true => rfl
  | false => rw [hm] at this; cases this
/-- what the law of the least number asks -/
theorem least_law {P T : Nat} (h1 : 1 ≤ P) (h4 : P ≤ 4) (hT : T < 2 ^ 2 ^ P) : -1 ≤ lv P P T ∧ lv P P T < P ∧ (lv P P T = 0 ↔ T = 0 ∨ 0 ≤ ktV (P : Int) (T : Int)) ∧ (T ^^^ (T &&& majN P) = 0 → 0 ≤ lv P P T) ∧ (T ≠ 0 → turned T (2 ^ P) (2 ^ P) = T → lv P P T = -1) :=
  ⟨lv_low _ _ _, lv_less (by omega) hT, least_zero h1 h4 hT, fun h => maj_less h1 h4 hT (sub_of_andNot h), fun h0 h => own_never h1 hT h0 h⟩
end Go.Proofs.YtbnickgjnglblaaDoor
/- Claims and stories in memory. -/
namespace Go.Proofs.YtbnickgjnglblaaDoor
open Go.RowKit Go.Joins
/-- no claims at this seat -/
abbrev TC : TypeId := 0
/-- a claim, and the slice that its marks are -/
abbrev QC := Value × Cl
def qc0 : QC := (.slice none 0 0, (0, []))
/-- the cells of some claims -/
def ccells : List QC → List Value
  | [] => []
  | q :: r => .int .i64 q.2.1 :: q.1 :: ccells r
theorem ccells_length (qs : List QC) : (ccells qs).length = qs.length * 2 := by
  induction qs with
  | nil => rfl
  | cons m r ih => simp [ccells, ih]; omega
theorem ccells_append (xs ys : List QC) : ccells (xs ++ ys) = ccells xs ++ ccells ys := by
  induction xs with
  | nil => rfl
  | cons m r ih => simp [ccells, ih]
theorem ccells_get (qs : List QC) : ∀ j, j < qs.length → (ccells qs)[j * 2]? = some (.int .i64 (qs.getD j qc0).2.1) ∧ (ccells qs)[j * 2 + 1]? = some (qs.getD j qc0).1 := by
  induction qs with
  | nil => intro j hj; simp at hj
  | cons m r ih =>
    intro j hj
    cases j with
    | zero => simp [ccells]
    | succ j =>
      have := ih j (by simpa using hj)
      have e1 : (j + 1) * 2 = j * 2 + 1 + 1 := by omega
      have e2 : (j + 1) * 2 + 1 = j * 2 + 1 + 1 + 1 := by omega
      rw [e1]
      simpa [ccells] using this
theorem ccells_one {qs : List QC} (h : ∀ q ∈ qs, q.1.oneCell' = true) : ∀ u ∈ ccells qs, u.oneCell' = true := by
  induction qs with
  | nil => intro u hu; simp [ccells] at hu
  | cons m r ih =>
    intro u hu
    simp only [ccells, List.mem_cons] at hu
    rcases hu with rfl | rfl | hu
    · rfl
    · exact h m (by simp)
    · exact ih (fun q hq => h q (by simp [hq])) u hu
/-- v is a slice of claims that reads as qs; it and what they say lie below block B -/
def RdStory (w : World) (B : Nat) (v : Value) (qs : List QC) : Prop :=
  ∃ ao cap, v = .slice ao qs.length cap ∧ qs.length ≤ cap ∧ cap ≤ maxLen ∧ (∀ q ∈ qs, RdMarks w B q.1 q.2.2 ∧ I64 q.2.1) ∧
    ∀ j, j < qs.length → ∃ b off, ao = some ⟨b, off, none⟩ ∧ b < B ∧ w.cell? ⟨b, off + j * 2, none⟩ = some (.int .i64 (qs.getD j qc0).2.1) ∧ w.cell? ⟨b, off + j * 2 + 1, none⟩ = some (qs.getD j qc0).1
theorem RdStory.below {w w' : World} {B : Nat} {v : Value} {qs : List QC} (h : RdStory w B v qs) (hb : ∀ k, k < B → w'.heap[k]? = w.heap[k]?) : RdStory w' B v qs := by
  obtain ⟨ao, cap, hv, hl, hm, hi, hc⟩ := h
  refine ⟨ao, cap, hv, hl, hm, fun q hq => ⟨(hi q hq).1.below hb, (hi q hq).2⟩, fun j hj => ?_⟩
  obtain ⟨b, off, ha, hB, hc1, hc2⟩ := hc j hj
  exact ⟨b, off, ha, hB, by rw [← hc1]; exact World.cell?_of_block (w := w) (hb b hB), by rw [← hc2]; exact World.cell?_of_block (w := w) (hb b hB)⟩
theorem RdStory.mono {w : World} {B B' : Nat} {v : Value} {qs : List QC} (h : RdStory w B v qs) (hB : B ≤ B') : RdStory w B' v qs := by
  obtain ⟨ao, cap, hv, hl, hm, hi, hc⟩ := h
  refine ⟨ao, cap, hv, hl, hm, fun q hq => ⟨(hi q hq).1.mono hB, (hi q hq).2⟩, fun j hj => ?_⟩
  obtain ⟨b, off, ha, hb, hc1, hc2⟩ := hc j hj
  exact ⟨b, off, ha, by omega, hc1, hc2⟩
theorem RdStory.get {w : World} {B : Nat} {v : Value} {qs : List QC} (h : RdStory w B v qs) {j : Nat} (hj : j < qs.length) : RdMarks w B (qs.getD j qc0).1 (qs.getD j qc0).2.2 ∧ I64 (qs.getD j qc0).2.1 := by
  obtain ⟨_, _, _, _, _, hi, _⟩ := h
  have e : qs.getD j qc0 = qs[j] := by simp [List.getD, hj]
  rw [e]; exact hi _ (List.getElem_mem hj)
/-- a row of claims of the call's own, and what they say in rows of the call's own -/
def StoryIn (w : World) (base ib : Nat) (v : Value) (qs : List QC) : Prop :=
  w.ownsRow base TC 2 v qs.length (ccells qs) ∧ ∀ q ∈ qs, w.ownsRow ib TM 2 q.1 q.2.2.length (mcells q.2.2) ∧ I64s q.2.2 ∧ I64 q.2.1
theorem own_one {w : World} {base n size : Nat} {e : TypeId} {v : Value} {xs : List Value} (h : w.ownsRow base e size v n xs) : v.oneCell' = true := by
  rcases h.2 with ⟨rfl, _⟩ | ⟨g, cap, cur, rfl, _⟩ <;> rfl
theorem StoryIn.rd {w : World} {base ib : Nat} {v : Value} {qs : List QC} (h : StoryIn w base ib v qs) : RdStory w w.heap.size v qs := by
  obtain ⟨ho, hq⟩ := h
  have hq' : ∀ q ∈ qs, RdMarks w w.heap.size q.1 q.2.2 ∧ I64 q.2.1 := fun q hm => ⟨RdMarks.of_own (hq q hm).1 (hq q hm).2.1, (hq q hm).2.2⟩
  rcases ho.2 with ⟨rfl, hn⟩ | ⟨g, cap, cur, rfl, hb, hg, hnc, hcm, hcs, htake⟩
  · have : qs = [] := List.eq_nil_of_length_eq_zero hn
    subst this
    exact ⟨none, 0, rfl, Nat.le_refl _, by unfold maxLen; omega, hq', fun j hj => by simp at hj⟩
  · refine ⟨_, cap, rfl, hnc, hcm, hq', fun j hj => ⟨g, 0, rfl, (Array.getElem?_eq_some_iff.1 hg).1, ?_, ?_⟩⟩
    · rw [cell_of_row w g (0 + j * 2) cur TC (0, 0) hg]
      have h1 := (ccells_get qs j hj).1
      rw [← htake, List.getElem?_take] at h1
      split at h1
      · simpa using h1
      · cases h1
    · rw [cell_of_row w g (0 + j * 2 + 1) cur TC (0, 0) hg]
      have h1 := (ccells_get qs j hj).2
      rw [← htake, List.getElem?_take] at h1
      split at h1
      · simpa using h1
      · cases h1
theorem StoryIn.alloc {w : World} {base ib : Nat} {v : Value} {qs : List QC} (h : StoryIn w base ib v qs) (o : Obj) : StoryIn (w.alloc o) base ib v qs :=
  ⟨h.1.alloc o, fun q hq => ⟨(h.2 q hq).1.alloc o, (h.2 q hq).2⟩⟩
theorem StoryIn.below {w w' : World} {base ib : Nat} {v : Value} {qs : List QC} (h : StoryIn w base ib v qs) (hb : Below w.heap.size w w') : StoryIn w' base ib v qs :=
  ⟨own_below h.1 hb, fun q hq => ⟨own_below (h.2 q hq).1 hb, (h.2 q hq).2⟩⟩
theorem StoryIn.row {w w' : World} {base ib b : Nat} {v : Value} {qs : List QC} (h : StoryIn w base ib v qs) (hg : w.grownBy w' (some b)) (hb : b < base) (hb' : b < ib) : StoryIn w' base ib v qs :=
  ⟨own_row h.1 hg hb, fun q hq => ⟨own_row (h.2 q hq).1 hg hb', (h.2 q hq).2⟩⟩
theorem StoryIn.mono {w : World} {base ib base' ib' : Nat} {v : Value} {qs : List QC} (h : StoryIn w base' ib' v qs) (hb : base ≤ base') (hi : ib ≤ ib') : StoryIn w base ib v qs :=
  ⟨own_mono h.1 hb, fun q hq => ⟨own_mono (h.2 q hq).1 hi, (h.2 q hq).2⟩⟩
theorem TM_TC : TM ≠ TC := by decide
/-- behind an append of one claim -/
theorem StoryIn.push {w w' : World} {base ib : Nat} {v v' : Value} {qs : List QC} {q : QC} (h : StoryIn w base ib v qs)
    (hq : w.ownsRow ib TM 2 q.1 q.2.2.length (mcells q.2.2) ∧ I64s q.2.2 ∧ I64 q.2.1) (hown : w'.ownsRow base TC 2 v' (qs.length + 1) (ccells qs ++ ccells [q])) (hg : w.grownBy w' v.ownBlock) : StoryIn w' base ib v' (qs ++ [q]) := by
  refine ⟨by rw [ccells_append]; simpa using hown, fun r hr => ?_⟩
  rcases List.mem_append.1 hr with hr | hr
  · exact ⟨(h.2 r hr).1.kept hg (own_ne (h.2 r hr).1 h.1 TM_TC), (h.2 r hr).2⟩
  · simp at hr; subst hr
    exact ⟨hq.1.kept hg (own_ne hq.1 h.1 TM_TC), hq.2⟩
theorem StoryIn.nil (w : World) (base ib : Nat) : StoryIn w base ib (.slice none 0 0) [] := ⟨World.ownsRow_nil _ _ _ _, fun q hq => by simp at hq⟩
/-- the cells of one claim in a block just laid -/
theorem newsC (W : World) (g : Nat) (hg : g = W.heap.size) (k : Int) (u : Value) (c : List (Int × Int)) (T : TypeId) : ∀ (j : Nat) (u' : Value), (ccells [(u, (k, c))])[j]? = some u' → (W.alloc (.cells #[.int .i64 k, u] T)).cell? ((⟨g, 0, none⟩ : Addr).add j) = some u' := by
  subst hg
  exact World.news_of_block (cs := #[.int .i64 k, u]) (t := T) (fr := (0, 0)) (heap_alloc_new W _)
/-! ### a variable of two cells -/
/-- block g holds a variable of two cells -/
def Box (w : World) (g : Nat) (a b : Value) : Prop := w.cell? ⟨g, 0, none⟩ = some a ∧ w.cell? ⟨g, 1, none⟩ = some b ∧ w.frozen? ⟨g, 0, none⟩ = false ∧ w.frozen? ⟨g, 1, none⟩ = false ∧ g < w.heap.size
theorem Box.new (w : World) (a b : Value) (T : TypeId) : ∃ w1 : World, w1 = w.alloc (.cells #[a, b] T) ∧ Box w1 w.heap.size a b ∧ Below w.heap.size w w1 ∧ w.heap.size < w1.heap.size := by
  have hh := heap_alloc_new w (.cells #[a, b] T)
  refine ⟨_, rfl, ⟨?_, ?_, frozen_of_row _ _ _ _ _ hh, frozen_of_row _ _ _ _ _ hh, by simp⟩, (Below.refl _ _).alloc (Nat.le_refl _) _, by simp⟩
  · have := cell_of_row (w.alloc (.cells #[a, b] T)) w.heap.size 0 _ T (0, 0) hh
    rw [this]; rfl
  · have := cell_of_row (w.alloc (.cells #[a, b] T)) w.heap.size 1 _ T (0, 0) hh
    rw [this]; rfl
theorem Box.kept {w w' : World} {g : Nat} {a b : Value} (h : Box w g a b) (hk : w'.heap[g]? = w.heap[g]?) (hs : g < w'.heap.size) : Box w' g a b :=
  ⟨(World.cell?_of_block (w := w) hk).trans h.1, (World.cell?_of_block (w := w) hk).trans h.2.1, (World.frozen?_of_block (w := w) hk).trans h.2.2.1, (World.frozen?_of_block (w := w) hk).trans h.2.2.2.1, hs⟩
theorem Box.below {w w' : World} {g : Nat} {a b : Value} (h : Box w g a b) (hb : Below w.heap.size w w') : Box w' g a b :=
  h.kept (hb.block g h.2.2.2.2) (by have := hb.size; have := h.2.2.2.2; omega)
theorem Box.grown {w w' : World} {g : Nat} {a b : Value} {row : Option Nat} (h : Box w g a b) (hg : w.grownBy w' row) (hne : row ≠ some g) : Box w' g a b :=
  h.kept (hg.block g h.2.2.2.2 (fun e => hne e.symm)) (by have := hg.size; have := h.2.2.2.2; omega)
theorem Box.alloc {w : World} {g : Nat} {a b : Value} (h : Box w g a b) (o : Obj) : Box (w.alloc o) g a b := h.kept (Below.heap_alloc w o g h.2.2.2.2) (by have := h.2.2.2.2; simp; omega)
theorem grown_set (w : World) (g j : Nat) (u : Value) : w.grownBy (w.setCell ⟨g, j, none⟩ u) (some g) :=
  ⟨rfl, rfl, rfl, by simp [World.setCell], fun k _ hne => Below.heap_setCell _ _ _ _ (by intro e; exact hne (by rw [e]))⟩
theorem grown_trans {a b c : World} {row : Option Nat} (h : a.grownBy b row) (k : b.grownBy c row) : a.grownBy c row :=
  ⟨k.os.trans h.os, k.tape.trans h.tape, k.output.trans h.output, Nat.le_trans h.size k.size, fun i hi hne => (k.block i (Nat.lt_of_lt_of_le hi h.size) hne).trans (h.block i hi hne)⟩
theorem Box.set0 {w : World} {g : Nat} {a b : Value} (h : Box w g a b) (a' : Value) : ∃ w', w' = w.setCell ⟨g, 0, none⟩ a' ∧ Box w' g a' b ∧ w.grownBy w' (some g) := by
  obtain ⟨h1, h2, h3, h4, h5⟩ := h
  refine ⟨_, rfl, ⟨by go_simp, by go_simp, by go_simp, by go_simp, by simpa [World.setCell] using h5⟩, grown_set _ _ _ _⟩
theorem Box.set1 {w : World} {g : Nat} {a b : Value} (h : Box w g a b) (b' : Value) : ∃ w', w' = w.setCell ⟨g, 1, none⟩ b' ∧ Box w' g a b' ∧ w.grownBy w' (some g) := by
  obtain ⟨h1, h2, h3, h4, h5⟩ := h
  refine ⟨_, rfl, ⟨by go_simp, by go_simp, by go_simp, by go_simp, by simpa [World.setCell] using h5⟩, grown_set _ _ _ _⟩
theorem Box.set {w : World} {g : Nat} {a b : Value} (h : Box w g a b) (a' b' : Value) : ∃ w', w' = (w.setCell ⟨g, 0, none⟩ a').setCell ⟨g, 1, none⟩ b' ∧ Box w' g a' b' ∧ w.grownBy w' (some g) := by
  obtain ⟨w1, e1, h1, g1⟩ := h.set0 a'
  obtain ⟨w2, e2, h2, g2⟩ := h1.set1 b'
  exact ⟨w2, by rw [e2, e1], h2, grown_trans g1 g2⟩
theorem own_len {w : World} {base n size : Nat} {e : TypeId} {v : Value} {xs : List Value} (h : w.ownsRow base e size v n xs) : ∃ ao cp, v = .slice ao n cp := by
  rcases h.2 with ⟨rfl, hn⟩ | ⟨g, cap, cur, rfl, _⟩
  · exact ⟨none, 0, by rw [hn]⟩
  · exact ⟨_, _, rfl⟩
end Go.Proofs.YtbnickgjnglblaaDoor
/- Contracts of the reference's claims and stories. -/
namespace Go.Proofs.YtbnickgjnglblaaDoor
open Go.RowKit Go.Joins
theorem new_two (w : World) (a b : Value) (T : TypeId) : ∃ w1 : World, w1 = w.alloc (.cells #[a, b] T) ∧ w1.cell? ⟨w.heap.size, 0, none⟩ = some a ∧ w1.cell? ⟨w.heap.size, 1, none⟩ = some b ∧ Below w.heap.size w w1 ∧ w.heap.size < w1.heap.size := by
  refine ⟨_, rfl, ?_, ?_, (Below.refl _ _).alloc (Nat.le_refl _) _, by simp⟩
  · have := cell_of_row (w.alloc (.cells #[a, b] T)) w.heap.size 0 _ T (0, 0) (heap_alloc_new w _)
    rw [this]; rfl
  · have := cell_of_row (w.alloc (.cells #[a, b] T)) w.heap.size 1 _ T (0, 0) (heap_alloc_new w _)
    rw [this]; rfl
theorem below_drew1 {B : Nat} {a w : World} (h : Below B a w) : Below B a w.drew := h.trans ⟨rfl, rfl, rfl, Nat.le_refl _, fun _ _ => rfl⟩
attribute [local irreducible] holds tabN tabV holdsV sameV followsV alwaysV matterV claimOk mayT mayV ctabV ctabN storyV storyOk storyN storyT
/-- of a claim that is one: its term, and who makes it as a number -/
theorem claim_parts {p k : Int} {ms : List (Int × Int)} (h : claimOk p (k, ms) = true) : ∃ (K : Nat) (t : Tm), k = K ∧ K < 4 ∧ p ≤ 4 ∧ 1 ≤ p ∧ t.ok p ∧ ms = t.post ∧ t.post.length ≤ 13 ∧ termOk p ms = true ∧ ∀ W, mayT p (k, ms) W = (W.testBit K == holds W t) := by
  obtain ⟨h1, h2, h3, h4⟩ := claimOk_iff.1 h
  obtain ⟨hp, _, t, ht, hpost⟩ := termOk_iff.1 h3
  dsimp only at h1 h2 h3 h4 hpost
  obtain ⟨K, rfl⟩ := Int.eq_ofNat_of_zero_le h1
  refine ⟨K, t, rfl, by omega, hp.2, hp.1, ht, hpost, by rw [← hpost]; exact h4, h3, fun W => ?_⟩
  unfold mayT
  dsimp only
  rw [hpost, tmOf_post ht, Int.toNat_natCast]
end Go.Proofs.YtbnickgjnglblaaDoor
/- Contracts of the reference's claims and stories: terms of claims, stories and their tables. -/
namespace Go.Proofs.YtbnickgjnglblaaDoor
open Go.RowKit Go.Joins
attribute [local irreducible] holds tabN tabV holdsV sameV followsV alwaysV matterV claimOk mayT mayV ctabV ctabN storyV storyOk storyN storyT ctermV ctermL
theorem RdMarks.cells {w : World} {B b off n cap : Nat} {ms : List (Int × Int)} (h : RdMarks w B (.slice (some ⟨b, off, none⟩) n cap) ms) : ∀ (j : Nat) (u : Value), (mcells ms)[j]? = some u → w.cell? ((⟨b, off, none⟩ : Addr).add j) = some u := by
  intro j u hj
  obtain ⟨ao, cap', hv, hl, _, _, hc⟩ := h
  cases hv
  have hlt : j < ms.length * 2 := by
    rw [← mcells_length]
    exact (List.getElem?_eq_some_iff.1 hj).1
  obtain ⟨b', off', he, _, h1, h2⟩ := hc (j / 2) (by omega)
  cases he
  obtain ⟨g1, g2⟩ := mcells_get ms (j / 2) (by omega)
  have e : (⟨b, off, none⟩ : Addr).add j = ⟨b, off + j, none⟩ := by simp [Addr.add]
  rw [e]
  rcases Nat.mod_two_eq_zero_or_one j with hm | hm
  · have ej : j = j / 2 * 2 := by omega
    rw [ej] at hj ⊢
    rw [g1] at hj
    cases hj
    exact h1
  · have ej : j = j / 2 * 2 + 1 := by omega
    rw [ej] at hj ⊢
    rw [g2] at hj
    cases hj
    exact h2
/-- what a call hands back that returns marks in memory of its own -/
def RowOut (ms : List (Int × Int)) (w : World) (e : Ending) (w' : World) : Prop := ∃ v, e = .returned v ∧ w'.ownsRow w.heap.size TM 2 v ms.length (mcells ms) ∧ Below w.heap.size w w'
theorem ctermV_no {p : Int} {c : Cl} (h : claimOk p c = false) : ctermV p c = [] := by unfold ctermV; rw [h]; rfl
theorem ctermV_yes {p : Int} {c : Cl} (h : claimOk p c = true) : ctermV p c = ctermL c := by unfold ctermV; rw [h]; rfl
theorem ctermL_cells (k : Int) (ms : List (Int × Int)) : (ctermL (k, ms)).length = 1 + ms.length + 1 ∧ mcells (ctermL (k, ms)) = mcells [(0, k)] ++ mcells ms ++ mcells [(5, 0)] := by
  unfold ctermL
  refine ⟨by simp; omega, ?_⟩
  rw [mcells_append]; rfl
/-! ### stories -/
theorem all_take_succ (p : Int) (qs : List QC) (j : Nat) (hj : j < qs.length) : ((qs.take (j + 1)).all fun q => claimOk p q.2) = (((qs.take j).all fun q => claimOk p q.2) && claimOk p (qs.getD j qc0).2) := by
  have e : qs.getD j qc0 = qs[j] := by simp [List.getD, hj]
  rw [List.take_succ_eq_append_getElem hj, List.all_append, e]
  simp
theorem storyOk_no {p : Int} {qs : List QC} {j : Nat} (hj : j < qs.length) (h : claimOk p (qs.getD j qc0).2 = false) : storyOk p (qs.map (·.2)) = false := by
  have e : qs.getD j qc0 = qs[j] := by simp [List.getD, hj]
  rw [e] at h
  cases hs : storyOk p (qs.map (·.2)) with
  | false => rfl
  | true =>
    have := (storyOk_iff.1 hs).1 qs[j].2 (List.mem_map.2 ⟨_, List.getElem_mem hj, rfl⟩)
    rw [h] at this; cases this
theorem storyOk_all {p : Int} {qs : List QC} (h : ((qs.take qs.length).all fun q => claimOk p q.2) = true) : storyOk p (qs.map (·.2)) = (pOk p && decide (qs.length ≤ 6)) := by
  rw [List.take_length] at h
  unfold storyOk
  rw [List.all_map, show (qs.all (claimOk p ∘ fun x => x.2)) = true from h, List.length_map]
  rfl
theorem story_take (p : Int) (qs : List QC) (j : Nat) (hj : j < qs.length) : storyN p ((qs.take (j + 1)).map (·.2)) = storyN p ((qs.take j).map (·.2)) &&& ctabN p (qs.getD j qc0).2 := by
  have e : qs.getD j qc0 = qs[j] := by simp [List.getD, hj]
  rw [List.take_succ_eq_append_getElem hj, List.map_append, e]
  exact storyN_snoc p _ _
end Go.Proofs.YtbnickgjnglblaaDoor
/- slices.Grow of the nil slice and slices.Concat, at rows of marks: a new row of all marks, one part after the other. -/
namespace Go.Proofs.YtbnickgjnglblaaDoor
open Go.RowKit Go.Joins
theorem run_append_own_none {P : Program} (w : World) (base : Nat) (t ty e : TypeId) (i : TypeInfo) (size : Nat) (ht : P.underlying t = some (.slice e)) (hi : P.info? e = some i)
    (hsize : i.size = size) (v : Value) (n : Nat) (xs : List Value) (hown : w.ownsRow base e size v n xs) (c : Nat) (hn : n ≤ maxLen) :
    (Builtin.append_ #[t, t] ty #[v, .slice none 0 c]).run P w = .ok v w := by
  subst hsize
  unfold maxLen at hn
  rcases hown.2 with ⟨rfl, rfl⟩ | ⟨g, cap, cur, rfl, hbg, hg, hnc, hcm, hcs, htake⟩
  · simp [Builtin.append_, run_underlying ht, sizeOf, typeInfo, hi, Builtin.lenOf, Builtin.firstCells]
  · simp [Builtin.append_, run_underlying ht, sizeOf, typeInfo, hi, Builtin.lenOf, Builtin.firstCells, hnc, storeCells]
/-- an append of marks that are read, wherever they lie -/
theorem append_rd {w : World} {base B n : Nat} {v u : Value} {cs : List Value} {ms : List (Int × Int)} {im : TypeInfo} (hmi : Tryd.prog.info? TM = some im) (hz : im.zero = some (.agg #[.int .i64 0, .int .i64 0])) (hsize : im.size = 2) (hby : im.bytes = 16)
    (hown : w.ownsRow base TM 2 v n cs) (hr : RdMarks w B u ms) (hl : n + ms.length ≤ 4000000) (hbase : base ≤ w.heap.size) :
    ∃ v' w', (Builtin.append_ #[TS, TS] TS #[v, u]).run Tryd.prog w = .ok v' w' ∧ w'.ownsRow base TM 2 v' (n + ms.length) (cs ++ mcells ms) ∧ w.grownBy w' v.ownBlock ∧ (v'.ownBlock = v.ownBlock ∨ v'.ownBlock = some w.heap.size) := by
  have hr0 := hr
  obtain ⟨ao, cap, rfl, hlc, hcm, hi, hc⟩ := hr
  cases ao with
  | none =>
    have h0 : ms = [] := by
      cases ms with
      | nil => rfl
      | cons m r =>
        obtain ⟨_, _, he, _⟩ := hc 0 (by simp)
        cases he
    subst h0
    refine ⟨v, w, run_append_own_none w base TS TS TM im 2 Tryd.underlying54 hmi hsize v n cs hown cap (by unfold maxLen; omega), by simpa [mcells] using hown, World.grownBy.refl _ _, .inl rfl⟩
  | some a =>
    have hnews : ∀ (j : Nat) (x : Value), (mcells ms)[j]? = some x → w.cell? (a.add j) = some x := by
      cases ms with
      | nil => intro j x hj; simp [mcells] at hj
      | cons m r =>
        obtain ⟨b, off, he, _⟩ := hc 0 (by simp)
        cases he
        exact hr0.cells
    obtain ⟨v', w', h1, h2, h3, _, h5⟩ := run_append_own_at (P := Tryd.prog) w base TS TS TM im (.agg #[.int .i64 0, .int .i64 0]) 2 16 Tryd.underlying54 hmi hz hsize hby rfl (by omega) v n cs hown a ms.length cap (mcells ms) (mcells_length _) hnews (mcells_one _) (by unfold maxLen; omega) (by omega) hbase
    exact ⟨v', w', h1, h2, h3, h5⟩
set_option maxHeartbeats 1000000 in
theorem implGrow (n : Nat) (w : World) (hn : n ≤ 1000000) :
    Calls Tryd.prog 57 #[.slice none 0 0, .int .i64 n] w (RowOut [] w) := by
  by_cases h0 : n = 0
  · subst h0
    go_enter Tryd.func57, Tryd.ntmps57
    go_wp2
    go_ret
    exact ⟨_, rfl, World.ownsRow_nil _ _ _ _, Below.refl _ _⟩
  · obtain ⟨im, hmi, hmz0, hmz1, hmz2⟩ := info_parts Tryd.infoM
    have hrz : ∀ ty, (Builtin.append_ #[TS, 3] ty #[.slice none 0 0, .int .i64 (n : Int)]).run Tryd.prog w = _ := fun ty =>
      Lib.run_append_nil_zeros (P := Tryd.prog) w TS 3 ty TM im (.agg #[.int .i64 0, .int .i64 0]) .i64 .i64 Tryd.underlying54 Tryd.underlying3 hmi hmz0 n (by omega) (by omega) (by omega) (by rw [hmz2]; omega)
    obtain ⟨G, hG⟩ : ∃ G, G = grownCap w n 0 TM := ⟨_, rfl⟩
    have hGn : n ≤ G := by rw [hG]; exact grownCap_ge w _ _ _
    have hGm : G ≤ maxLen := by rw [hG]; exact grownCap_le_maxLen w n 0 TM (by unfold maxLen; omega)
    rw [← hG] at hrz
    obtain ⟨cur, hcur⟩ : ∃ cur : Array Value, cur = Builtin.zeroCells (Value.cells (.agg #[.int .i64 0, .int .i64 0])) n ++ Builtin.zeroCells (Value.cells (.agg #[.int .i64 0, .int .i64 0])) (G - n) := ⟨_, rfl⟩
    have hcs : cur.size = G * 2 := by
      rw [hcur, Array.size_append, size_zeroCells, size_zeroCells, show (Value.cells (.agg #[.int .i64 0, .int .i64 0])).size = 2 from rfl]
      omega
    rw [← hcur] at hrz
    have Hrz := Lib.hid hrz; clear hrz hcur hG
    have hG63 : G ≤ 9223372036854775807 := by unfold maxLen at hGm; omega
    have HGm := Lib.hid hGm; clear hGm
    have Hcs := Lib.hid hcs; clear hcs hmi hmz0 hmz1 hmz2
    go_enter Tryd.func57, Tryd.ntmps57
    go_wp2_with (at_builtin; refine Lib.wpList_append_run _ rfl _ _ _ _ rfl _ _ rfl rfl _ _ (Hrz.out _) ?_)
    all_goals
      go_ret
      refine ⟨_, rfl, ?_, (below_drew1 (Below.refl _ _)).alloc (Nat.le_refl _) _⟩
      exact World.ownsRow_made w.drew cur G (Nat.le_refl _) HGm.out Hcs.out
/-! ### the parts -/
def flat (ps : List PQ) : List (Int × Int) := ps.flatMap (·.2)
theorem pq_at {ps : List PQ} {j : Nat} (hj : j < ps.length) : ps.getD j pq0 = ps[j] := by simp [List.getD, hj]
theorem flat_take {ps : List PQ} {j : Nat} (hj : j < ps.length) : flat (ps.take (j + 1)) = flat (ps.take j) ++ (ps.getD j pq0).2 := by
  rw [pq_at hj, List.take_succ_eq_append_getElem hj]
  unfold flat
  rw [List.flatMap_append, List.flatMap_singleton]
theorem tot_take {ps : List PQ} {j : Nat} (hj : j < ps.length) : tot (ps.take (j + 1)) = tot (ps.take j) + (ps.getD j pq0).2.length := by
  rw [pq_at hj, List.take_succ_eq_append_getElem hj, tot_snoc]
theorem tot_take_le (ps : List PQ) (j : Nat) : tot (ps.take j) ≤ tot ps := by
  conv => rhs; rw [← List.take_append_drop j ps]
  unfold tot
  rw [List.map_append, List.sum_append]
  exact Nat.le_add_right _ _
theorem flat_length (ps : List PQ) : (flat ps).length = tot ps := by
  simp [flat, tot, List.length_flatMap]
/-- a row of parts, in block g, each of which reads as marks below B -/
def PartsAt (w : World) (g B : Nat) (ps : List PQ) : Prop := ∀ j, j < ps.length → w.cell? ⟨g, j, none⟩ = some (ps.getD j pq0).1 ∧ RdMarks w B (ps.getD j pq0).1 (ps.getD j pq0).2
theorem PartsAt.below {w w' : World} {g B : Nat} {ps : List PQ} (h : PartsAt w g B ps) (hB : B ≤ w.heap.size) (hg : g < w.heap.size) (hb : ∀ k, k < w.heap.size → w'.heap[k]? = w.heap[k]?) : PartsAt w' g B ps := fun j hj =>
  ⟨by rw [← (h j hj).1]; exact World.cell?_of_block (w := w) (hb g hg), (h j hj).2.below fun k hk => hb k (by omega)⟩
set_option maxRecDepth 100000 in
set_option maxHeartbeats 4000000 in
theorem implConcat (ps : List PQ) (g c : Nat) (w : World) (hps : ps.length ≤ 100) (hc : ps.length ≤ c) (_hcm : c ≤ 1000) (htot : tot ps ≤ 100000) (hg : g < w.heap.size) (hp : PartsAt w g w.heap.size ps) :
    Calls Tryd.prog 53 #[.slice (some ⟨g, 0, none⟩) ps.length c] w (RowOut (flat ps) w) := by
  obtain ⟨im, hmi, hmz0, hmz1, hmz2⟩ := info_parts Tryd.infoM
  have Mi := Lib.hid hmi; clear hmi
  have Mz0 := Lib.hid hmz0; clear hmz0
  have Mz1 := Lib.hid hmz1; clear hmz1
  have Mz2 := Lib.hid hmz2; clear hmz2
  obtain ⟨wo, rfl⟩ : ∃ wo : World, wo = w := ⟨_, rfl⟩
  have Hp := Lib.hid hp; clear hp
  have Hsucc := Lib.hid (fun j hj => tot_take (ps := ps) (j := j) hj)
  have Hflat := Lib.hid (fun j hj => flat_take (ps := ps) (j := j) hj)
  have Hle := Lib.hid (fun j => tot_take_le ps j)
  have Hfl := Lib.hid (flat_length ps)
  have Hall : Hid (ps.take ps.length = ps) := List.take_length
  obtain ⟨M, hM⟩ : ∃ M, M = ps.length := ⟨_, rfl⟩
  have HM := Lib.hid hM
  rw [← hM] at hps hc ⊢
  clear hM
  go_enter Tryd.func53, Tryd.ntmps53
  go_wp2_with fail
  go_loopw [3, 5, 11] (fun s' _ i wr => ∃ j : Nat, j ≤ M ∧ i = .int .i64 j ∧ s' = .int .i64 (tot (ps.take j)) ∧ Below wo.heap.size wo wr) (fun _ _ i _ => M - (intOf i).toNat)
  case atStart => exact ⟨0, Nat.zero_le _, rfl, rfl, Below.refl _ _⟩
  case round =>
    obtain ⟨j, hj, rfl, rfl, hbr⟩ := hrel
    by_cases hlt : j < M
    · obtain ⟨hcell, hrd⟩ := Hp.out j (by rw [← HM.out]; exact hlt)
      have Hs := Lib.hid (Hsucc.out j (by rw [← HM.out]; exact hlt))
      have hle1 := Hle.out (j + 1)
      rw [Hs.out] at hle1
      obtain ⟨ao, cap, hu, hlc, hcap, _, _⟩ := hrd
      generalize ps.getD j pq0 = q at *
      obtain ⟨u, ms⟩ := q
      dsimp only at hu hcell hlc hle1
      subst hu
      have Hs' : Hid (tot (ps.take (j + 1)) = tot (ps.take j) + ms.length) := Hs.out
      clear Hs
      rw [← hbr.cell (p := ⟨g, j, none⟩) hg] at hcell
      unfold maxLen at hcap
      generalize tot (ps.take j) = T at *
      generalize hL : ms.length = L at *
      clear hL
      have hneg : ¬ ((T : Int) + (L : Int) < 0) := by omega
      have hT : T + L ≤ 100000 := by omega
      have Hbr := Lib.hid hbr; clear hbr hle1
      go_wp2
      go_roundw
      case rel => exact ⟨j + 1, by omega, by go_num, by rw [Hs'.out]; go_num, Hbr.out⟩
      case measure => simp [intOf]; omega
    · obtain rfl : j = M := by omega
      have hT : tot (ps.take j) = tot ps := by rw [HM.out, Hall.out]
      rw [hT]
      have Hgr := Lib.hid (fun w => implGrow (tot ps) w (by omega))
      have Htl : Hid (tot ps ≤ 100000) := htot
      have Hee : Hid (tot (ps.take ps.length) = tot ps) := by unfold Hid; rw [Hall.out]
      generalize tot ps = T at *
      clear hT hlt htot
      have Hbr := Lib.hid hbr; clear hbr
      go_wp2_with fail
      refine (Hgr.out _).mono ?_
      rintro e w1 ⟨v1, rfl, ho1, hb1⟩
      have hB1 : Below wo.heap.size wo w1 := Hbr.out.trans (hb1.mono Hbr.out.size)
      have Ho1 := Lib.hid (own_mono ho1 Hbr.out.size)
      have HB1 := Lib.hid hB1
      clear hB1 hb1 ho1
      go_wp2_with fail
      go_loopw [6, 8, 27] (fun v _ i wr => ∃ k : Nat, k ≤ j ∧ i = .int .i64 k ∧ wr.ownsRow wo.heap.size TM 2 v (tot (ps.take k)) (mcells (flat (ps.take k))) ∧ Below wo.heap.size wo wr) (fun _ _ i _ => j - (intOf i).toNat)
      case atStart => exact ⟨0, Nat.zero_le _, rfl, Ho1.out, HB1.out⟩
      case round =>
        obtain ⟨k, hk, rfl, hown, hbr⟩ := hrel
        by_cases hlt : k < j
        · have hlt' : k < ps.length := by rw [← HM.out]; exact hlt
          obtain ⟨hcell, hrd⟩ := Hp.out k hlt'
          have Hs := Lib.hid (Hsucc.out k hlt')
          have Hf := Lib.hid (Hflat.out k hlt')
          have hle1 := Hle.out (k + 1)
          rw [Hs.out] at hle1
          generalize ps.getD k pq0 = q at *
          obtain ⟨u, ms⟩ := q
          dsimp only at hcell hrd hle1
          have Hs' : Hid (tot (ps.take (k + 1)) = tot (ps.take k) + ms.length) := Hs.out
          have Hf' : Hid (flat (ps.take (k + 1)) = flat (ps.take k) ++ ms) := Hf.out
          clear Hs Hf
          rw [← hbr.cell (p := ⟨g, k, none⟩) hg] at hcell
          have hrd' := hrd.below (w' := _) (fun q hq => hbr.block q hq)
          obtain ⟨v4, w4, hrun, hown4, hgr4, _⟩ := append_rd Mi.out Mz0.out Mz1.out Mz2.out hown hrd' (by have := Htl.out; omega) hbr.size
          have hrow := hown.lt
          obtain ⟨ao, cap, hu, _⟩ := hrd
          subst hu
          have hB4 : wo.grownBy w4 none := grown_own ⟨hbr.os, hbr.tape, hbr.output, hbr.size, fun i hi _ => hbr.block i hi⟩ hgr4 (fun q hq => (hown.lt q hq).1)
          have Hrun := Lib.hid hrun
          have HB4 := Lib.hid (below_none hB4)
          have Hown4 := Lib.hid hown4
          clear hrun hown4 hgr4 hrow hrd' hle1 hown hB4 hbr
          go_wp2_with (first
            | (at_builtin; refine Lib.wpList_append_run _ rfl _ _ _ _ rfl _ _ rfl rfl _ _ Hrun.out ?_)
            | fail)
          go_roundw
          case rel => exact ⟨k + 1, by omega, by go_num, by rw [Hs'.out, Hf'.out, mcells_append]; exact Hown4.out, HB4.out⟩
          case measure => simp [intOf]; omega
        · obtain rfl : k = j := by omega
          have Hown := Lib.hid hown; have Hbr2 := Lib.hid hbr
          clear hown hbr
          go_wp2
          go_ret
          refine ⟨_, rfl, ?_, Hbr2.out⟩
          have ho := Hown.out
          rw [HM.out, Hee.out, Hall.out] at ho
          rw [Hfl.out]
          exact ho
theorem rd_one {w : World} {h B : Nat} {k x : Int} (h0 : w.cell? ⟨h, 0, none⟩ = some (.int .i64 k)) (h1 : w.cell? ⟨h, 1, none⟩ = some (.int .i64 x)) (hk : I64 k) (hx : I64 x) (hB : h < B) : RdMarks w B (.slice (some ⟨h, 0, none⟩) 1 1) [(k, x)] := by
  refine ⟨_, 1, rfl, Nat.le_refl _, by unfold maxLen; omega, I64s_one hk hx, fun j hj => ⟨h, 0, rfl, hB, ?_, ?_⟩⟩
  all_goals
    have : j = 0 := by simpa using hj
    subst this
  · exact h0
  · exact h1
/-- marks that came in, and one behind them -/
theorem concat2 (w : World) (g h : Nat) (u : Value) (ms : List (Int × Int)) (k x : Int) (hg : g < w.heap.size) (hh : h < w.heap.size) (c0 : w.cell? ⟨g, 0, none⟩ = some u) (c1 : w.cell? ⟨g, 1, none⟩ = some (.slice (some ⟨h, 0, none⟩) 1 1))
    (h0 : w.cell? ⟨h, 0, none⟩ = some (.int .i64 k)) (h1 : w.cell? ⟨h, 1, none⟩ = some (.int .i64 x)) (hk : I64 k) (hx : I64 x) (hr : RdMarks w w.heap.size u ms) (hl : ms.length ≤ 100) :
    Calls Tryd.prog 53 #[.slice (some ⟨g, 0, none⟩) 2 2] w (RowOut (ms ++ [(k, x)]) w) := by
  have hfl : flat [(u, ms), (.slice (some ⟨h, 0, none⟩) 1 1, [(k, x)])] = ms ++ [(k, x)] := by simp [flat]
  have hc := implConcat [(u, ms), (.slice (some ⟨h, 0, none⟩) 1 1, [(k, x)])] g 2 w (by simp) (by simp) (by omega) (by simp [tot]; omega) hg (fun j hj => by
    have hj2 : j = 0 ∨ j = 1 := by simp at hj; omega
    rcases hj2 with rfl | rfl
    · exact ⟨c0, hr⟩
    · exact ⟨c1, rd_one h0 h1 hk hx hh⟩)
  rw [hfl] at hc
  exact hc
/-- one mark, marks that came in, and one mark -/
theorem concat3 (w : World) (g h h' : Nat) (u : Value) (ms : List (Int × Int)) (k x k' x' : Int) (hg : g < w.heap.size) (hh : h < w.heap.size) (hh' : h' < w.heap.size) (c0 : w.cell? ⟨g, 0, none⟩ = some (.slice (some ⟨h, 0, none⟩) 1 1)) (c1 : w.cell? ⟨g, 1, none⟩ = some u) (c2 : w.cell? ⟨g, 2, none⟩ = some (.slice (some ⟨h', 0, none⟩) 1 1))
    (h0 : w.cell? ⟨h, 0, none⟩ = some (.int .i64 k)) (h1 : w.cell? ⟨h, 1, none⟩ = some (.int .i64 x)) (h2 : w.cell? ⟨h', 0, none⟩ = some (.int .i64 k')) (h3 : w.cell? ⟨h', 1, none⟩ = some (.int .i64 x')) (hk : I64 k) (hx : I64 x) (hk' : I64 k') (hx' : I64 x') (hr : RdMarks w w.heap.size u ms) (hl : ms.length ≤ 100) :
    Calls Tryd.prog 53 #[.slice (some ⟨g, 0, none⟩) 3 3] w (RowOut ((k, x) :: ms ++ [(k', x')]) w) := by
  have hfl : flat [(.slice (some ⟨h, 0, none⟩) 1 1, [(k, x)]), (u, ms), (.slice (some ⟨h', 0, none⟩) 1 1, [(k', x')])] = (k, x) :: ms ++ [(k', x')] := by simp [flat]
  have hc := implConcat [(.slice (some ⟨h, 0, none⟩) 1 1, [(k, x)]), (u, ms), (.slice (some ⟨h', 0, none⟩) 1 1, [(k', x')])] g 3 w (by simp) (by simp) (by omega) (by simp [tot]; omega) hg (fun j hj => by
    have hj2 : j = 0 ∨ j = 1 ∨ j = 2 := by simp at hj; omega
    rcases hj2 with rfl | rfl | rfl
    · exact ⟨c0, rd_one h0 h1 hk hx hh⟩
    · exact ⟨c1, hr⟩
    · exact ⟨c2, rd_one h2 h3 hk' hx' hh'⟩)
  rw [hfl] at hc
  exact hc
end Go.Proofs.YtbnickgjnglblaaDoor
