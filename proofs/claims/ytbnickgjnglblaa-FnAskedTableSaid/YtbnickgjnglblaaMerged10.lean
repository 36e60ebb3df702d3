/- Texts of a proof, merged: AskM, MajL, Claim, ClaimS, ClaimT. -/
import Derived.Test.YtbnickgjnglblaaMerged9
import Derived.Test.YtbnickgjnglblaaMerged4
import Derived.Test.YtbnickgjnglblaaMerged8
import Derived.Deep.RegionHeld3
import Derived.Deep.Cut
import Derived.OwnWalk
/- Questions: the mathematics, without code. -/
namespace Go.Proofs.Ytbnickgjnglblaa
open Go.RowKit
def inOk (p k : Int) : Bool := decide (0 ≤ k ∧ k < p)
/-- what a person answers: 1 for yes, 0 for no, -1 for what is no question -/
def ansN (p k : Int) (ms : List (Int × Int)) (x : Int) : Int := if termOk p ms && (wOk p x && inOk p k) then (if mayT p (k, ms) x.toNat then 1 else 0) else -1
/-- the marks of a chain of questions -/
def chainL : List Int → List (Int × Int) → List (Int × Int)
  | [], ms => ms
  | k :: r, ms => ctermL (k, chainL r ms)
def chainOk (p : Int) (l : List Int) (ms : List (Int × Int)) : Bool := termOk p ms && termOk p (chainL l ms)
def chainV (p : Int) (l : List Int) (ms : List (Int × Int)) : List (Int × Int) := if chainOk p l ms then chainL l ms else []
def alikeV (p k : Int) (ms : List (Int × Int)) : Bool := termOk p ms && (inOk p k && decide (∀ W, W < 2 ^ p.toNat → mayT p (k, ms) W = mayT p (k, ms) (W ^^^ 1 <<< k.toNat)))
/-- how many people of a list lie in a world -/
def liesN (W : Nat) : List Int → Nat
  | [] => 0
  | k :: r => (if W.testBit k.toNat then 0 else 1) + liesN W r
theorem inOk_iff {p k : Int} : inOk p k = true ↔ 0 ≤ k ∧ k < p := by simp [inOk]
theorem ansN_no {p k x : Int} {ms : List (Int × Int)} (h : (termOk p ms && (wOk p x && inOk p k)) = false) : ansN p k ms x = -1 := by unfold ansN; rw [h]; rfl
theorem ansN_yes {p k x : Int} {ms : List (Int × Int)} (h1 : termOk p ms = true) (h2 : wOk p x = true) (h3 : inOk p k = true) : ansN p k ms x = if mayT p (k, ms) x.toNat then 1 else 0 := by unfold ansN; rw [h1, h2, h3]; rfl
/-! ### tricks -/
theorem cterm_len2 (k : Int) (ms : List (Int × Int)) : (ctermL (k, ms)).length = ms.length + 2 := by simp [ctermL]
/-- a trick is a term exactly if that which asks is a claim -/
theorem trick_ok {p k : Int} {ms : List (Int × Int)} (h : termOk p ms = true) : termOk p (ctermL (k, ms)) = claimOk p (k, ms) := by
  rw [Bool.eq_iff_iff, claimOk_iff]
  constructor
  · intro ht
    have hm := termOk_mkOk ht (0, k) (by simp [ctermL])
    unfold mkOk at hm
    simp at hm
    have hl := (termOk_iff.1 ht).2.1
    rw [cterm_len2] at hl
    dsimp only
    exact ⟨by omega, by omega, h, by omega⟩
  · intro hc
    exact (ctermL_ok (claimOk_iff.2 hc)).1
theorem claim_term {p k : Int} {ms : List (Int × Int)} (h : claimOk p (k, ms) = true) : termOk p ms = true ∧ inOk p k = true := by
  obtain ⟨h1, h2, h3, _⟩ := claimOk_iff.1 h
  exact ⟨h3, inOk_iff.2 ⟨h1, h2⟩⟩
theorem trick_term {p k : Int} {ms : List (Int × Int)} (h : claimOk p (k, ms) = true) : termOk p (ctermL (k, ms)) = true := (ctermL_ok h).1
/-- asked a trick, the person says yes exactly if the term holds -/
theorem trick_holds {p k : Int} {ms : List (Int × Int)} (h : claimOk p (k, ms) = true) (W : Nat) : mayT p (k, ctermL (k, ms)) W = holds W (tmOf p ms) := by
  unfold mayT
  dsimp only
  rw [holds_cterm h]
  unfold mayT
  dsimp only
  cases W.testBit k.toNat <;> cases holds W (tmOf p ms) <;> rfl
theorem trick_ans {p k : Int} {ms : List (Int × Int)} (h : claimOk p (k, ms) = true) {x : Int} (hx : wOk p x = true) : (ansN p k (ctermL (k, ms)) x == 1) = holdsV p ms x := by
  obtain ⟨h1, h2⟩ := claim_term h
  rw [ansN_yes (trick_term h) hx h2, trick_holds h]
  unfold holdsV
  rw [h1, hx]
  cases holds x.toNat (tmOf p ms) <;> rfl
/-! ### answers -/
theorem ans_range (p k : Int) (ms : List (Int × Int)) (x : Int) : ansN p k ms x = -1 ∨ ansN p k ms x = 0 ∨ ansN p k ms x = 1 := by
  unfold ansN
  split
  · split
    · exact .inr (.inr rfl)
    · exact .inr (.inl rfl)
  · exact .inl rfl
theorem ans_cases {p k x : Int} {ms : List (Int × Int)} : (ansN p k ms x = -1 ∧ (termOk p ms && (wOk p x && inOk p k)) = false) ∨ (termOk p ms = true ∧ wOk p x = true ∧ inOk p k = true) := by
  cases h : (termOk p ms && (wOk p x && inOk p k)) with
  | false => exact .inl ⟨ansN_no h, rfl⟩
  | true =>
    simp only [Bool.and_eq_true] at h
    exact .inr ⟨h.1, h.2.1, h.2.2⟩
theorem ans_may {p k x : Int} {ms : List (Int × Int)} (h1 : termOk p ms = true) (h2 : wOk p x = true) (h3 : inOk p k = true) : (ansN p k ms x == 1) = mayT p (k, ms) x.toNat ∧ (claimOk p (k, ms) = true → mayV p (k, ms) x = (ansN p k ms x == 1)) ∧ x.toNat.testBit k.toNat = (holdsV p ms x == (ansN p k ms x == 1)) := by
  have e : (ansN p k ms x == 1) = mayT p (k, ms) x.toNat := by
    rw [ansN_yes h1 h2 h3]
    cases mayT p (k, ms) x.toNat <;> rfl
  refine ⟨e, fun hc => by rw [e]; exact mayV_yes hc h2, ?_⟩
  rw [e]
  unfold holdsV mayT
  dsimp only
  rw [h1, h2]
  cases x.toNat.testBit k.toNat <;> cases holds x.toNat (tmOf p ms) <;> rfl
/-! ### chains -/
theorem chain_len (l : List Int) (ms : List (Int × Int)) : (chainL l ms).length = ms.length + 2 * l.length := by
  induction l with
  | nil => simp [chainL]
  | cons k r ih => rw [chainL, cterm_len2, ih, List.length_cons]; omega
theorem chain_people {l : List Int} {ms : List (Int × Int)} : ∀ k ∈ l, ((0 : Int), k) ∈ chainL l ms := by
  induction l with
  | nil => intro k hk; cases hk
  | cons j r ih =>
    intro k hk
    unfold chainL ctermL
    rcases List.mem_cons.1 hk with rfl | hk
    · simp
    · have := ih k hk
      simp [this]
theorem chain_ok {p : Int} {l : List Int} {ms : List (Int × Int)} (h : termOk p ms = true) : termOk p (chainL l ms) = true ↔ (∀ k ∈ l, 0 ≤ k ∧ k < p) ∧ ms.length + 2 * l.length ≤ 15 := by
  constructor
  · intro ht
    refine ⟨fun k hk => ?_, ?_⟩
    · have hm := termOk_mkOk ht _ (chain_people k hk)
      unfold mkOk at hm
      simp at hm
      omega
    · have := (termOk_iff.1 ht).2.1
      rw [chain_len] at this
      exact this
  · rintro ⟨hk, hl⟩
    induction l with
    | nil => exact h
    | cons k r ih =>
      rw [List.length_cons] at hl
      have hr := ih (fun j hj => hk j (by simp [hj])) (by omega)
      have hkk := hk k (by simp)
      refine (ctermL_ok (claimOk_iff.2 ⟨hkk.1, hkk.2, hr, ?_⟩)).1
      show (chainL r ms).length ≤ 13
      rw [chain_len]; omega
theorem chain_step {p k : Int} {r : List Int} {ms : List (Int × Int)} (h : termOk p ms = true) (ht : termOk p (chainL (k :: r) ms) = true) : claimOk p (k, chainL r ms) = true ∧ termOk p (chainL r ms) = true := by
  obtain ⟨h1, h2⟩ := (chain_ok h).1 ht
  rw [List.length_cons] at h2
  have hr := (chain_ok (l := r) h).2 ⟨fun j hj => h1 j (by simp [hj]), by omega⟩
  have hkk := h1 k (by simp)
  refine ⟨claimOk_iff.2 ⟨hkk.1, hkk.2, hr, ?_⟩, hr⟩
  show (chainL r ms).length ≤ 13
  rw [chain_len]; omega
theorem chain_holds {p : Int} {ms : List (Int × Int)} (h : termOk p ms = true) : ∀ (l : List Int), termOk p (chainL l ms) = true → ∀ W : Nat, holds W (tmOf p (chainL l ms)) = (holds W (tmOf p ms) == decide (liesN W l % 2 = 0)) := by
  intro l
  induction l with
  | nil => intro _ W; simp [chainL, liesN]
  | cons k r ih =>
    intro ht W
    obtain ⟨hc, hr⟩ := chain_step h ht
    rw [show chainL (k :: r) ms = ctermL (k, chainL r ms) from rfl, holds_cterm hc]
    unfold mayT
    dsimp only
    rw [ih hr W, show liesN W (k :: r) = (if W.testBit k.toNat then 0 else 1) + liesN W r from rfl]
    rcases Nat.mod_two_eq_zero_or_one (liesN W r) with hm | hm
    · cases hb : W.testBit k.toNat with
      | true => rw [if_pos rfl, Nat.zero_add, hm]; cases holds W (tmOf p ms) <;> rfl
      | false =>
        rw [if_neg (by simp), hm, show (1 + liesN W r) % 2 = 1 by omega]
        cases holds W (tmOf p ms) <;> rfl
    · cases hb : W.testBit k.toNat with
      | true => rw [if_pos rfl, Nat.zero_add, hm]; cases holds W (tmOf p ms) <;> rfl
      | false =>
        rw [if_neg (by simp), hm, show (1 + liesN W r) % 2 = 0 by omega]
        cases holds W (tmOf p ms) <;> rfl
theorem lies_append (W : Nat) (a b : List Int) : liesN W (a ++ b) = liesN W a + liesN W b := by
  induction a with
  | nil => simp [liesN]
  | cons k r ih => simp [liesN, ih]; omega
theorem lies_rev (W : Nat) (l : List Int) : liesN W l.reverse = liesN W l := by
  induction l with
  | nil => rfl
  | cons k r ih => rw [List.reverse_cons, lies_append, ih]; simp [liesN]; omega
theorem lies_le (W : Nat) (l : List Int) : liesN W l ≤ l.length := by
  induction l with
  | nil => exact Nat.le_refl _
  | cons k r ih => unfold liesN; rw [List.length_cons]; split <;> omega
theorem same_of_holds {p : Int} {a b : List (Int × Int)} (ha : termOk p a = true) (hb : termOk p b = true) (h : ∀ W, holds W (tmOf p a) = holds W (tmOf p b)) : sameV p a b = true := by
  unfold sameV
  rw [ha, hb, tabV_yes ha, tabV_yes hb, show (fun w => holds w (tmOf p a)) = fun w => holds w (tmOf p b) from funext h]
  simp
/-- a chain from the last one to the first one asks the same -/
theorem chain_back {p : Int} {l : List Int} {ms : List (Int × Int)} (h : chainOk p l ms = true) (h2 : chainOk p l.reverse ms = true) : sameV p (chainL l ms) (chainL l.reverse ms) = true := by
  unfold chainOk at h h2
  simp only [Bool.and_eq_true] at h h2
  refine same_of_holds h.2 h2.2 fun W => ?_
  rw [chain_holds h.1 l h.2, chain_holds h.1 l.reverse h2.2, lies_rev]
/-- a trick of a trick is the question itself -/
theorem trick_twice {p k : Int} {ms : List (Int × Int)} (h : claimOk p (k, ms) = true) (h2 : claimOk p (k, ctermL (k, ms)) = true) : sameV p (ctermL (k, ctermL (k, ms))) ms = true := by
  refine same_of_holds (trick_term h2) (claim_term h).1 fun W => ?_
  rw [holds_cterm h2, trick_holds h]
/-! ### who is asked alike -/
theorem flip_testBit (W K : Nat) : (W ^^^ 1 <<< K).testBit K = !W.testBit K := by
  rw [Nat.testBit_xor, Nat.one_shiftLeft, Nat.testBit_two_pow_self]
  cases W.testBit K <;> rfl
theorem matter_bit {p k : Int} {ms : List (Int × Int)} (_ : termOk p ms = true) (hk : inOk p k = true) : (matterN p (tmOf p ms)).testBit k.toNat = matters p (tmOf p ms) k.toNat := by
  obtain ⟨h0, h1⟩ := inOk_iff.1 hk
  unfold matterN
  rw [tabF_bit]
  have : k.toNat < p.toNat := by omega
  simp [this]
theorem alike_trick {p k : Int} {ms : List (Int × Int)} (h : claimOk p (k, ms) = true) : alikeV p k (ctermL (k, ms)) = !matters p (tmOf p ms) k.toNat := by
  obtain ⟨h1, h2⟩ := claim_term h
  unfold alikeV matters
  rw [trick_term h, h2, Bool.true_and, Bool.true_and, ← decide_not, decide_eq_decide]
  constructor
  · rintro hall ⟨W, hW, hne⟩
    have := hall W hW
    rw [trick_holds h, trick_holds h] at this
    exact hne this
  · intro hno W hW
    rw [trick_holds h, trick_holds h]
    cases hd : decide (holds W (tmOf p ms) = holds (W ^^^ 1 <<< k.toNat) (tmOf p ms)) with
    | true => exact of_decide_eq_true hd
    | false => exact absurd ⟨W, hW, of_decide_eq_false hd⟩ hno
theorem alike_matters {p k : Int} {ms : List (Int × Int)} (h : alikeV p k ms = true) : matters p (tmOf p ms) k.toNat = true := by
  unfold alikeV at h
  simp only [Bool.and_eq_true, decide_eq_true_eq] at h
  obtain ⟨_, _, h3⟩ := h
  unfold matters
  rw [decide_eq_true_eq]
  refine ⟨0, Nat.two_pow_pos _, ?_⟩
  have := h3 0 (Nat.two_pow_pos _)
  unfold mayT at this
  dsimp only at this
  rw [flip_testBit] at this
  intro e
  rw [e] at this
  revert this
  cases (0 : Nat).testBit k.toNat <;> cases holds (0 ^^^ 1 <<< k.toNat) (tmOf p ms) <;> simp
end Go.Proofs.Ytbnickgjnglblaa
/- Asking for a teller: the mathematics of the laws. -/
namespace Go.Proofs.Ytbnickgjnglblaa
open Go.RowKit
theorem tOk_nat {P T : Nat} (h1 : 1 ≤ P) (h4 : P ≤ 4) (hT : T < 2 ^ 2 ^ P) : tOk (P : Int) (T : Int) = true :=
  tOk_iff.2 ⟨by omega, by omega, by omega, by rw [Int.toNat_natCast]; exact_mod_cast hT⟩
theorem tOk_parts {p t : Int} (h : tOk p t = true) : ∃ P T : Nat, p = P ∧ t = T ∧ 1 ≤ P ∧ P ≤ 4 ∧ T < 2 ^ 2 ^ P ∧ T < 65536 := by
  obtain ⟨h1, h4, h3, h5⟩ := tOk_lt h
  obtain ⟨P, rfl⟩ := Int.eq_ofNat_of_zero_le (show 0 ≤ p by omega)
  obtain ⟨T, rfl⟩ := Int.eq_ofNat_of_zero_le h3
  obtain ⟨_, _, _, h⟩ := tOk_iff.1 h
  rw [Int.toNat_natCast] at h
  exact ⟨P, T, rfl, rfl, by omega, by omega, by exact_mod_cast h, by omega⟩
theorem nums_nat (l : List Nat) : (nums l).map Int.toNat = l := by
  unfold nums
  rw [List.map_map]
  conv => rhs; rw [← List.map_id l]
  rfl
theorem nums_at (l : List Nat) {j : Nat} (hj : j < l.length) : (nums l).getD j 0 = ((l[j] : Nat) : Int) := by simp [nums, List.getD, hj]
theorem tabOf_sub {l : List Nat} {T N : Nat} (h : ∀ i ∈ l, i ∈ wl T N) : Sub (tabOf l) T := fun w hw => by
  rw [tabOf_bit, decide_eq_true_eq] at hw
  exact (wl_mem.1 (h w hw)).2
/-- the table without its last world -/
def lessN (T N : Nat) : Nat := tabOf (wl T N).dropLast
theorem less_sub (T N : Nat) : Sub (lessN T N) T := tabOf_sub fun _ hi => (List.dropLast_sublist _).subset hi
theorem less_lt (T N : Nat) : lessN T N < 2 ^ N := tabOf_lt _ N fun _ hi => (wl_mem.1 ((List.dropLast_sublist _).subset hi)).1
theorem less_ne {T N : Nat} (h : 2 ≤ (wl T N).length) : lessN T N ≠ 0 := by
  intro h0
  have hl : (wl T N).dropLast.length = (wl T N).length - 1 := List.length_dropLast
  have hp : 0 < (wl T N).dropLast.length := by omega
  have hm := List.getElem_mem hp
  have : (lessN T N).testBit (wl T N).dropLast[0] = true := by
    unfold lessN
    rw [tabOf_bit, decide_eq_true_eq]; exact hm
  rw [h0] at this
  simp at this
theorem less_tow {P T : Nat} (h1 : 1 ≤ P) (h4 : P ≤ 4) : tow (P : Int) (nums (wl T (2 ^ P)).dropLast) = (lessN T (2 ^ P) : Int) := by
  rw [tow_yes (by simp [pOk]; omega) (fun j hj => ?_), nums_nat]
  · rfl
  · rw [nums_length] at hj
    have hm := List.getElem_mem hj
    have hlt := (wl_mem.1 ((List.dropLast_sublist _).subset hm)).1
    rw [nums_at _ hj]
    refine wOk_iff.2 ⟨by omega, by omega, by omega, ?_⟩
    rw [Int.toNat_natCast]
    exact_mod_cast hlt
theorem wl_none {T N : Nat} (hT : T < 2 ^ N) (h : (wl T N).length = 0) : T = 0 := by
  have := tabOf_wl hT
  rw [List.eq_nil_of_length_eq_zero h] at this
  exact this.symm
theorem wl_at {T N j : Nat} (hj : j < (wl T N).length) : (wl T N).getD j 0 < N ∧ T.testBit ((wl T N).getD j 0) = true := by
  rw [show (wl T N).getD j 0 = (wl T N)[j] by simp [List.getD, hj]]
  exact wl_mem.1 (List.getElem_mem hj)
/-! ### who is known -/
theorem ktV_low (p t : Int) : -1 ≤ ktV p t := by
  unfold ktV
  split
  · exact firstN_low _ _
  · omega
theorem kt_parts {p t : Int} (h : 0 ≤ ktV p t) : ∃ P T n : Nat, p = P ∧ t = T ∧ ktV p t = n ∧ 1 ≤ P ∧ P ≤ 4 ∧ T < 2 ^ 2 ^ P ∧ T < 65536 ∧ n < P ∧ T ≠ 0 ∧ telB P T n = true ∧ tOk p t = true := by
  cases ht : (tOk p t && decide (t ≠ 0)) with
  | false => unfold ktV at h; rw [ht] at h; simp at h
  | true =>
    rw [Bool.and_eq_true, decide_eq_true_eq] at ht
    obtain ⟨P, T, rfl, rfl, h1, h4, hT, h6⟩ := tOk_parts ht.1
    have e : ktV (P : Int) (T : Int) = telN P T := by unfold ktV; rw [ht.1, decide_eq_true ht.2]; rfl
    rw [e] at h ⊢
    obtain ⟨n, hn, e2, hb, _⟩ := firstN_ge h
    exact ⟨P, T, n, rfl, rfl, e2, h1, h4, hT, h6, hn, fun e => ht.2 (by rw [e]; rfl), hb, ht.1⟩
theorem kt_ge {P T k : Nat} (h1 : 1 ≤ P) (h4 : P ≤ 4) (hT : T < 2 ^ 2 ^ P) (h0 : T ≠ 0) (hk : k < P) (hb : telB P T k = true) : 0 ≤ ktV (P : Int) (T : Int) ∧ ktV (P : Int) (T : Int) ≤ k := by
  have e : ktV (P : Int) (T : Int) = telN P T := by
    unfold ktV
    rw [tOk_nat h1 h4 hT, decide_eq_true (show (T : Int) ≠ 0 by omega)]; rfl
  rw [e]
  exact firstN_le hk hb
theorem kt_less {P T k : Nat} (h1 : 1 ≤ P) (h4 : P ≤ 4) (h2 : 2 ≤ (wl T (2 ^ P)).length) (hk : k < P) (hb : telB P T k = true) : 0 ≤ ktV (P : Int) (lessN T (2 ^ P) : Int) ∧ ktV (P : Int) (lessN T (2 ^ P) : Int) ≤ k :=
  kt_ge h1 h4 (less_lt _ _) (less_ne h2) hk (telB_iff.2 fun w hw hbw => telB_iff.1 hb w hw (less_sub T _ w hbw))
theorem kt_bits {P T k j : Nat} (hb : telB P T k = true) (hj : j < (wl T (2 ^ P)).length) : ((wl T (2 ^ P)).getD j 0).testBit k = true := telB_iff.1 hb _ (wl_at hj).1 (wl_at hj).2
/-! ### what is answered -/
theorem askV_low (p t i j : Int) (s : Bool) : -1 ≤ askV p t i j s := by
  unfold askV
  split <;> omega
theorem ask_parts {p t i j : Int} {s : Bool} (h : 0 ≤ askV p t i j s) : ∃ P T I J : Nat, p = P ∧ t = T ∧ i = I ∧ j = J ∧ 1 ≤ P ∧ P ≤ 4 ∧ T < 2 ^ 2 ^ P ∧ T < 65536 ∧ I < P ∧ J < P ∧ (∀ s', askV p t i j s' = (askN P T I J s' : Int)) ∧ (∀ s', askV p t j i s' = (askN P T J I s' : Int)) ∧ tOk p t = true := by
  cases ht : (tOk p t && (decide (0 ≤ i ∧ i < p) && decide (0 ≤ j ∧ j < p))) with
  | false => unfold askV at h; rw [ht] at h; simp at h
  | true =>
    rw [Bool.and_eq_true, Bool.and_eq_true, decide_eq_true_eq, decide_eq_true_eq] at ht
    obtain ⟨ht0, hi, hj⟩ := ht
    obtain ⟨P, T, rfl, rfl, h1, h4, hT, h6⟩ := tOk_parts ht0
    obtain ⟨I, rfl⟩ := Int.eq_ofNat_of_zero_le hi.1
    obtain ⟨J, rfl⟩ := Int.eq_ofNat_of_zero_le hj.1
    refine ⟨P, T, I, J, rfl, rfl, rfl, rfl, h1, h4, hT, h6, by omega, by omega, fun s' => ?_, fun s' => ?_, ht0⟩
    · unfold askV; rw [ht0, decide_eq_true hi, decide_eq_true hj]; rfl
    · unfold askV; rw [ht0, decide_eq_true hi, decide_eq_true hj]; rfl
theorem ask_swap (P T I J : Nat) (s : Bool) : askN P T J I s = askN P T I J s := by
  unfold askN
  rw [tabF_ext]
  intro w _
  rw [show (w.testBit J == w.testBit I) = (w.testBit I == w.testBit J) from Bool.beq_comm]
theorem ask_and (P T I J : Nat) (s : Bool) : askN P T I J s &&& askN P T I J (!s) = 0 := by
  refine zero_of_none fun w => ?_
  rw [Nat.testBit_and]
  cases h1 : (askN P T I J s).testBit w with
  | false => rfl
  | true =>
    cases h2 : (askN P T I J (!s)).testBit w with
    | false => rfl
    | true =>
      have a := (ask_bit.1 h1).2.2
      have b := (ask_bit.1 h2).2.2
      rw [a] at b
      cases s <;> cases b
theorem ask_or {P T I J : Nat} (s : Bool) (hT : T < 2 ^ 2 ^ P) : askN P T I J s ||| askN P T I J (!s) = T := by
  refine bit_ext (n := 2 ^ P) (Nat.or_lt_two_pow (ask_lt _ _ _ _ _) (ask_lt _ _ _ _ _)) hT fun w hw => ?_
  rw [Nat.testBit_or, Bool.eq_iff_iff, Bool.or_eq_true, ask_bit, ask_bit]
  constructor
  · rintro (⟨_, h, _⟩ | ⟨_, h, _⟩) <;> exact h
  · intro h
    by_cases he : (w.testBit I == w.testBit J) = s
    · exact .inl ⟨hw, h, he⟩
    · refine .inr ⟨hw, h, ?_⟩
      cases s <;> cases hx : (w.testBit I == w.testBit J) <;> simp [hx] at he ⊢
theorem leaf_parts {p l : Int} (h1 : 1 ≤ p) (h4 : p ≤ 4) (hl : 0 ≤ l ∧ l < p) : termOk p [(0, l)] = true ∧ tmOf p [(0, l)] = .leaf 0 l := by
  have ok0 : (Tm.leaf 0 l).ok p := by simp only [Tm.ok]; exact .inl ⟨by trivial, hl.1, hl.2⟩
  exact ⟨termOk_iff.2 ⟨by first | omega | exact ⟨by omega, by omega⟩ | (simp [pOk]; omega), by simp, .leaf 0 l, ok0, rfl⟩, tmOf_post (t := .leaf 0 l) ok0⟩
/-- the person I answers yes to whether J tells the truth just where both are alike -/
theorem ans_alike13 {P T I J j : Nat} {s : Bool} (h1 : 1 ≤ P) (h4 : P ≤ 4) (hI : I < P) (hJ : J < P) (hj : j < (wl (askN P T I J s) (2 ^ P)).length) :
    ansN (P : Int) (I : Int) [(0, (J : Int))] (((wl (askN P T I J s) (2 ^ P)).getD j 0 : Nat) : Int) = if s then 1 else 0 := by
  obtain ⟨hlt, hb⟩ := wl_at hj
  generalize (wl (askN P T I J s) (2 ^ P)).getD j 0 = W at *
  obtain ⟨ht, hm⟩ := leaf_parts (p := (P : Int)) (l := (J : Int)) (by omega) (by omega) ⟨by omega, by omega⟩
  have hw : wOk (P : Int) (W : Int) = true := wOk_iff.2 ⟨by omega, by omega, by omega, by rw [Int.toNat_natCast]; exact_mod_cast hlt⟩
  have hin : inOk (P : Int) (I : Int) = true := by unfold inOk; exact decide_eq_true ⟨by omega, by omega⟩
  rw [ansN_yes ht hw hin]
  have hx := (ask_bit.1 hb).2.2
  unfold mayT
  rw [hm]
  show (if (((W : Int).toNat.testBit (I : Int).toNat) == holds (W : Int).toNat (.leaf 0 (J : Int))) = true then (1 : Int) else 0) = _
  rw [Int.toNat_natCast, Int.toNat_natCast]
  have hh : holds W (.leaf 0 (J : Int)) = W.testBit J := by simp [holds]
  rw [hh, hx]
/-! ### the least number of questions -/
theorem least_low (p t : Int) : -1 ≤ leastV p t := by
  unfold leastV
  split
  · exact lv_low _ _ _
  · omega
theorem least_parts {P T : Nat} (ht : tOk (P : Int) (T : Int) = true) : leastV (P : Int) (T : Int) = lv P P T := by unfold leastV; rw [ht]; simp
theorem least_zero {P T : Nat} (h1 : 1 ≤ P) (h4 : P ≤ 4) (hT : T < 2 ^ 2 ^ P) : lv P P T = 0 ↔ T = 0 ∨ 0 ≤ ktV (P : Int) (T : Int) := by
  rw [lv_eq_zero, done0_tel]
  by_cases h0 : T = 0
  · simp [h0]
  · have e : ktV (P : Int) (T : Int) = telN P T := by
      unfold ktV
      rw [tOk_nat h1 h4 hT, decide_eq_true (show (T : Int) ≠ 0 by omega)]; rfl
    rw [e]
theorem heads_two : ∀ p : Fin 5, 1 ≤ p.val → ∀ w : Fin 16, w.val < 2 ^ p.val → heads (2 ^ p.val - 1 - w.val) + heads w.val = p.val := by decide +kernel
theorem maj_good {P T : Nat} (h1 : 1 ≤ P) (h4 : P ≤ 4) (h : Sub T (majN P)) : ¬ Bad P T := by
  intro hb
  rcases bad_sub h hb with h0 | ⟨w, hw, ha, hc⟩
  · have := (maj_bit.1 h0).2
    have e : heads 0 = 0 := by decide +kernel
    omega
  · have a := (maj_bit.1 ha).2
    have b := (maj_bit.1 hc).2
    have h16 : w < 16 := by
      have : 2 ^ P ≤ 2 ^ 4 := Nat.pow_le_pow_right (by decide) h4
      omega
    have := heads_two ⟨P, by omega⟩ h1 ⟨w, h16⟩ hw
    dsimp only at this
    omega
theorem maj_less {P T : Nat} (h1 : 1 ≤ P) (h4 : P ≤ 4) (hT : T < 2 ^ 2 ^ P) (h : Sub T (majN P)) : 0 ≤ lv P P T := (lv_ge_iff (by omega) hT).2 (maj_good h1 h4 h)
theorem turned_own {P T : Nat} (hT : T < 2 ^ 2 ^ P) (h0 : T ≠ 0) (h : turned T (2 ^ P) (2 ^ P) = T) : Bad P T := by
  have hl : (wl T (2 ^ P)).length ≠ 0 := fun e => h0 (wl_none hT e)
  obtain ⟨a, b⟩ := wl_at (T := T) (N := 2 ^ P) (j := 0) (by omega)
  generalize (wl T (2 ^ P)).getD 0 0 = w at *
  refine .inr ⟨w, a, b, ?_⟩
  have : (turned T (2 ^ P) (2 ^ P)).testBit (2 ^ P - 1 - w) = true := by
    unfold turned
    rw [tabOf_bit, decide_eq_true_eq]
    exact List.mem_map.2 ⟨w, wl_mem.2 ⟨a, b⟩, rfl⟩
  rw [h] at this
  exact this
theorem own_never {P T : Nat} (h1 : 1 ≤ P) (hT : T < 2 ^ 2 ^ P) (h0 : T ≠ 0) (h : turned T (2 ^ P) (2 ^ P) = T) : lv P P T = -1 := by
  have a := lv_low P P T
  have b : ¬ 0 ≤ lv P P T := fun hge => (lv_ge_iff (by omega) hT).1 hge (turned_own hT h0 h)
  omega
theorem lv_lessN {P T : Nat} (h : 0 ≤ lv P P T) : 0 ≤ lv P P (lessN T (2 ^ P)) ∧ lv P P (lessN T (2 ^ P)) ≤ lv P P T := lv_sub P (less_sub T _) h
theorem bits_andNot13 (a b : Nat) (ha : a < 9223372036854775808) (hb : b < 9223372036854775808) :
    bits .andNot .i64 (a : Int) (b : Int) = ((a ^^^ (a &&& b) : Nat) : Int) := by
  have hx : a ^^^ (a &&& b) < 2 ^ 63 := Nat.xor_lt_two_pow (by omega) (Nat.and_lt_two_pow _ (by omega))
  have hy : (BitVec.ofInt 64 (a : Int) &&& ~~~ BitVec.ofInt 64 (b : Int)).toNat = a ^^^ (a &&& b) := by
    refine Nat.eq_of_testBit_eq fun i => ?_
    rw [BitVec.testBit_toNat, BitVec.getLsbD_and, BitVec.getLsbD_not, ← BitVec.testBit_toNat, ← BitVec.testBit_toNat, ofInt_nat a ha, ofInt_nat b hb, Nat.testBit_xor, Nat.testBit_and]
    by_cases hi : i < 64
    · simp [hi]
      cases a.testBit i <;> cases b.testBit i <;> rfl
    · have : a.testBit i = false := Nat.testBit_lt_two_pow (Nat.lt_of_lt_of_le (show a < 2 ^ 63 by omega) (Nat.pow_le_pow_right (by decide) (by omega)))
      simp [this]
  show IntKind.i64.wrap ((BitVec.ofInt 64 (a : Int) &&& ~~~ BitVec.ofInt 64 (b : Int)).toNat : Int) = _
  rw [hy, IntKind.wrap_i64]
  omega
theorem sub_of_andNot {T M : Nat} (h : T ^^^ (T &&& M) = 0) : Sub T M := fun j hj => by
  have := congrArg (fun x => x.testBit j) h
  simp only [Nat.testBit_xor, Nat.testBit_and, Nat.zero_testBit, hj, Bool.true_and] at this
  cases hm : M.testBit j with
  | true => rfl
  | false => rw [hm] at this; cases this
/-- what the law of the least number asks -/
theorem least_law {P T : Nat} (h1 : 1 ≤ P) (h4 : P ≤ 4) (hT : T < 2 ^ 2 ^ P) : -1 ≤ lv P P T ∧ lv P P T < P ∧ (lv P P T = 0 ↔ T = 0 ∨ 0 ≤ ktV (P : Int) (T : Int)) ∧ (T ^^^ (T &&& majN P) = 0 → 0 ≤ lv P P T) ∧ (T ≠ 0 → turned T (2 ^ P) (2 ^ P) = T → lv P P T = -1) :=
  ⟨lv_low _ _ _, lv_less (by omega) hT, least_zero h1 h4 hT, fun h => maj_less h1 h4 hT (sub_of_andNot h), fun h0 h => own_never h1 hT h0 h⟩
end Go.Proofs.Ytbnickgjnglblaa
/- Claims and stories in memory. -/
namespace Go.Proofs.Ytbnickgjnglblaa
open Go.RowKit Go.Joins
/-- no claims at this seat -/
abbrev TC : TypeId := 0
/-- a claim, and the slice that its marks are -/
abbrev QC := Value × Cl
def qc0 : QC := (.slice none 0 0, (0, []))
/-- the cells of some claims -/
def ccells : List QC → List Value
  | [] => []
  | q :: r => .int .i64 q.2.1 :: q.1 :: ccells r
theorem ccells_length (qs : List QC) : (ccells qs).length = qs.length * 2 := by
  induction qs with
  | nil => rfl
  | cons m r ih => simp [ccells, ih]; omega
theorem ccells_append (xs ys : List QC) : ccells (xs ++ ys) = ccells xs ++ ccells ys := by
  induction xs with
  | nil => rfl
  | cons m r ih => simp [ccells, ih]
theorem ccells_get (qs : List QC) : ∀ j, j < qs.length → (ccells qs)[j * 2]? = some (.int .i64 (qs.getD j qc0).2.1) ∧ (ccells qs)[j * 2 + 1]? = some (qs.getD j qc0).1 := by
  induction qs with
  | nil => intro j hj; simp at hj
  | cons m r ih =>
    intro j hj
    cases j with
    | zero => simp [ccells]
    | succ j =>
      have := ih j (by simpa using hj)
      have e1 : (j + 1) * 2 = j * 2 + 1 + 1 := by omega
      have e2 : (j + 1) * 2 + 1 = j * 2 + 1 + 1 + 1 := by omega
      rw [e1]
      simpa [ccells] using this
theorem ccells_one {qs : List QC} (h : ∀ q ∈ qs, q.1.oneCell' = true) : ∀ u ∈ ccells qs, u.oneCell' = true := by
  induction qs with
  | nil => intro u hu; simp [ccells] at hu
  | cons m r ih =>
    intro u hu
    simp only [ccells, List.mem_cons] at hu
    rcases hu with rfl | rfl | hu
    · rfl
    · exact h m (by simp)
    · exact ih (fun q hq => h q (by simp [hq])) u hu
/-- v is a slice of claims that reads as qs; it and what they say lie below block B -/
def RdStory (w : World) (B : Nat) (v : Value) (qs : List QC) : Prop :=
  ∃ ao cap, v = .slice ao qs.length cap ∧ qs.length ≤ cap ∧ cap ≤ maxLen ∧ (∀ q ∈ qs, RdMarks w B q.1 q.2.2 ∧ I64 q.2.1) ∧
    ∀ j, j < qs.length → ∃ b off, ao = some ⟨b, off, none⟩ ∧ b < B ∧ w.cell? ⟨b, off + j * 2, none⟩ = some (.int .i64 (qs.getD j qc0).2.1) ∧ w.cell? ⟨b, off + j * 2 + 1, none⟩ = some (qs.getD j qc0).1
theorem RdStory.below {w w' : World} {B : Nat} {v : Value} {qs : List QC} (h : RdStory w B v qs) (hb : ∀ k, k < B → w'.heap[k]? = w.heap[k]?) : RdStory w' B v qs := by
  obtain ⟨ao, cap, hv, hl, hm, hi, hc⟩ := h
  refine ⟨ao, cap, hv, hl, hm, fun q hq => ⟨(hi q hq).1.below hb, (hi q hq).2⟩, fun j hj => ?_⟩
  obtain ⟨b, off, ha, hB, hc1, hc2⟩ := hc j hj
  exact ⟨b, off, ha, hB, by rw [← hc1]; exact World.cell?_of_block (w := w) (hb b hB), by rw [← hc2]; exact World.cell?_of_block (w := w) (hb b hB)⟩
theorem RdStory.mono {w : World} {B B' : Nat} {v : Value} {qs : List QC} (h : RdStory w B v qs) (hB : B ≤ B') : RdStory w B' v qs := by
  obtain ⟨ao, cap, hv, hl, hm, hi, hc⟩ := h
  refine ⟨ao, cap, hv, hl, hm, fun q hq => ⟨(hi q hq).1.mono hB, (hi q hq).2⟩, fun j hj => ?_⟩
  obtain ⟨b, off, ha, hb, hc1, hc2⟩ := hc j hj
  exact ⟨b, off, ha, by omega, hc1, hc2⟩
theorem RdStory.get {w : World} {B : Nat} {v : Value} {qs : List QC} (h : RdStory w B v qs) {j : Nat} (hj : j < qs.length) : RdMarks w B (qs.getD j qc0).1 (qs.getD j qc0).2.2 ∧ I64 (qs.getD j qc0).2.1 := by
  obtain ⟨_, _, _, _, _, hi, _⟩ := h
  have e : qs.getD j qc0 = qs[j] := by simp [List.getD, hj]
  rw [e]; exact hi _ (List.getElem_mem hj)
/-- a row of claims of the call's own, and what they say in rows of the call's own -/
def StoryIn (w : World) (base ib : Nat) (v : Value) (qs : List QC) : Prop :=
  w.ownsRow base TC 2 v qs.length (ccells qs) ∧ ∀ q ∈ qs, w.ownsRow ib TM 2 q.1 q.2.2.length (mcells q.2.2) ∧ I64s q.2.2 ∧ I64 q.2.1
theorem own_one {w : World} {base n size : Nat} {e : TypeId} {v : Value} {xs : List Value} (h : w.ownsRow base e size v n xs) : v.oneCell' = true := by
  rcases h.2 with ⟨rfl, _⟩ | ⟨g, cap, cur, rfl, _⟩ <;> rfl
theorem StoryIn.rd {w : World} {base ib : Nat} {v : Value} {qs : List QC} (h : StoryIn w base ib v qs) : RdStory w w.heap.size v qs := by
  obtain ⟨ho, hq⟩ := h
  have hq' : ∀ q ∈ qs, RdMarks w w.heap.size q.1 q.2.2 ∧ I64 q.2.1 := fun q hm => ⟨RdMarks.of_own (hq q hm).1 (hq q hm).2.1, (hq q hm).2.2⟩
  rcases ho.2 with ⟨rfl, hn⟩ | ⟨g, cap, cur, rfl, hb, hg, hnc, hcm, hcs, htake⟩
  · have : qs = [] := List.eq_nil_of_length_eq_zero hn
    subst this
    exact ⟨none, 0, rfl, Nat.le_refl _, by unfold maxLen; omega, hq', fun j hj => by simp at hj⟩
  · refine ⟨_, cap, rfl, hnc, hcm, hq', fun j hj => ⟨g, 0, rfl, (Array.getElem?_eq_some_iff.1 hg).1, ?_, ?_⟩⟩
    · rw [cell_of_row w g (0 + j * 2) cur TC (0, 0) hg]
      have h1 := (ccells_get qs j hj).1
      rw [← htake, List.getElem?_take] at h1
      split at h1
      · simpa using h1
      · cases h1
    · rw [cell_of_row w g (0 + j * 2 + 1) cur TC (0, 0) hg]
      have h1 := (ccells_get qs j hj).2
      rw [← htake, List.getElem?_take] at h1
      split at h1
      · simpa using h1
      · cases h1
theorem StoryIn.alloc {w : World} {base ib : Nat} {v : Value} {qs : List QC} (h : StoryIn w base ib v qs) (o : Obj) : StoryIn (w.alloc o) base ib v qs :=
  ⟨h.1.alloc o, fun q hq => ⟨(h.2 q hq).1.alloc o, (h.2 q hq).2⟩⟩
theorem StoryIn.below {w w' : World} {base ib : Nat} {v : Value} {qs : List QC} (h : StoryIn w base ib v qs) (hb : Below w.heap.size w w') : StoryIn w' base ib v qs :=
  ⟨own_below h.1 hb, fun q hq => ⟨own_below (h.2 q hq).1 hb, (h.2 q hq).2⟩⟩
theorem StoryIn.row {w w' : World} {base ib b : Nat} {v : Value} {qs : List QC} (h : StoryIn w base ib v qs) (hg : w.grownBy w' (some b)) (hb : b < base) (hb' : b < ib) : StoryIn w' base ib v qs :=
  ⟨own_row h.1 hg hb, fun q hq => ⟨own_row (h.2 q hq).1 hg hb', (h.2 q hq).2⟩⟩
theorem StoryIn.mono {w : World} {base ib base' ib' : Nat} {v : Value} {qs : List QC} (h : StoryIn w base' ib' v qs) (hb : base ≤ base') (hi : ib ≤ ib') : StoryIn w base ib v qs :=
  ⟨own_mono h.1 hb, fun q hq => ⟨own_mono (h.2 q hq).1 hi, (h.2 q hq).2⟩⟩
theorem TM_TC : TM ≠ TC := by decide
/-- behind an append of one claim -/
theorem StoryIn.push {w w' : World} {base ib : Nat} {v v' : Value} {qs : List QC} {q : QC} (h : StoryIn w base ib v qs)
    (hq : w.ownsRow ib TM 2 q.1 q.2.2.length (mcells q.2.2) ∧ I64s q.2.2 ∧ I64 q.2.1) (hown : w'.ownsRow base TC 2 v' (qs.length + 1) (ccells qs ++ ccells [q])) (hg : w.grownBy w' v.ownBlock) : StoryIn w' base ib v' (qs ++ [q]) := by
  refine ⟨by rw [ccells_append]; simpa using hown, fun r hr => ?_⟩
  rcases List.mem_append.1 hr with hr | hr
  · exact ⟨(h.2 r hr).1.kept hg (own_ne (h.2 r hr).1 h.1 TM_TC), (h.2 r hr).2⟩
  · simp at hr; subst hr
    exact ⟨hq.1.kept hg (own_ne hq.1 h.1 TM_TC), hq.2⟩
theorem StoryIn.nil (w : World) (base ib : Nat) : StoryIn w base ib (.slice none 0 0) [] := ⟨World.ownsRow_nil _ _ _ _, fun q hq => by simp at hq⟩
/-- the cells of one claim in a block just laid -/
theorem newsC (W : World) (g : Nat) (hg : g = W.heap.size) (k : Int) (u : Value) (c : List (Int × Int)) (T : TypeId) : ∀ (j : Nat) (u' : Value), (ccells [(u, (k, c))])[j]? = some u' → (W.alloc (.cells #[.int .i64 k, u] T)).cell? ((⟨g, 0, none⟩ : Addr).add j) = some u' := by
  subst hg
  exact World.news_of_block (cs := #[.int .i64 k, u]) (t := T) (fr := (0, 0)) (heap_alloc_new W _)
/-! ### a variable of two cells -/
/-- block g holds a variable of two cells -/
def Box (w : World) (g : Nat) (a b : Value) : Prop := w.cell? ⟨g, 0, none⟩ = some a ∧ w.cell? ⟨g, 1, none⟩ = some b ∧ w.frozen? ⟨g, 0, none⟩ = false ∧ w.frozen? ⟨g, 1, none⟩ = false ∧ g < w.heap.size
theorem Box.new (w : World) (a b : Value) (T : TypeId) : ∃ w1 : World, w1 = w.alloc (.cells #[a, b] T) ∧ Box w1 w.heap.size a b ∧ Below w.heap.size w w1 ∧ w.heap.size < w1.heap.size := by
  have hh := heap_alloc_new w (.cells #[a, b] T)
  refine ⟨_, rfl, ⟨?_, ?_, frozen_of_row _ _ _ _ _ hh, frozen_of_row _ _ _ _ _ hh, by simp⟩, (Below.refl _ _).alloc (Nat.le_refl _) _, by simp⟩
  · have := cell_of_row (w.alloc (.cells #[a, b] T)) w.heap.size 0 _ T (0, 0) hh
    rw [this]; rfl
  · have := cell_of_row (w.alloc (.cells #[a, b] T)) w.heap.size 1 _ T (0, 0) hh
    rw [this]; rfl
theorem Box.kept {w w' : World} {g : Nat} {a b : Value} (h : Box w g a b) (hk : w'.heap[g]? = w.heap[g]?) (hs : g < w'.heap.size) : Box w' g a b :=
  ⟨(World.cell?_of_block (w := w) hk).trans h.1, (World.cell?_of_block (w := w) hk).trans h.2.1, (World.frozen?_of_block (w := w) hk).trans h.2.2.1, (World.frozen?_of_block (w := w) hk).trans h.2.2.2.1, hs⟩
theorem Box.below {w w' : World} {g : Nat} {a b : Value} (h : Box w g a b) (hb : Below w.heap.size w w') : Box w' g a b :=
  h.kept (hb.block g h.2.2.2.2) (by have := hb.size; have := h.2.2.2.2; omega)
theorem Box.grown {w w' : World} {g : Nat} {a b : Value} {row : Option Nat} (h : Box w g a b) (hg : w.grownBy w' row) (hne : row ≠ some g) : Box w' g a b :=
  h.kept (hg.block g h.2.2.2.2 (fun e => hne e.symm)) (by have := hg.size; have := h.2.2.2.2; omega)
theorem Box.alloc {w : World} {g : Nat} {a b : Value} (h : Box w g a b) (o : Obj) : Box (w.alloc o) g a b := h.kept (Below.heap_alloc w o g h.2.2.2.2) (by have := h.2.2.2.2; simp; omega)
theorem grown_set (w : World) (g j : Nat) (u : Value) : w.grownBy (w.setCell ⟨g, j, none⟩ u) (some g) :=
  ⟨rfl, rfl, rfl, by simp [World.setCell], fun k _ hne => Below.heap_setCell _ _ _ _ (by intro e; exact hne (by rw [e]))⟩
theorem grown_trans {a b c : World} {row : Option Nat} (h : a.grownBy b row) (k : b.grownBy c row) : a.grownBy c row :=
  ⟨k.os.trans h.os, k.tape.trans h.tape, k.output.trans h.output, Nat.le_trans h.size k.size, fun i hi hne => (k.block i (Nat.lt_of_lt_of_le hi h.size) hne).trans (h.block i hi hne)⟩
theorem Box.set0 {w : World} {g : Nat} {a b : Value} (h : Box w g a b) (a' : Value) : ∃ w', w' = w.setCell ⟨g, 0, none⟩ a' ∧ Box w' g a' b ∧ w.grownBy w' (some g) := by
  obtain ⟨h1, h2, h3, h4, h5⟩ := h
  refine ⟨_, rfl, ⟨by go_simp, by go_simp, by go_simp, by go_simp, by simpa [World.setCell] using h5⟩, grown_set _ _ _ _⟩
theorem Box.set1 {w : World} {g : Nat} {a b : Value} (h : Box w g a b) (b' : Value) : ∃ w', w' = w.setCell ⟨g, 1, none⟩ b' ∧ Box w' g a b' ∧ w.grownBy w' (some g) := by
  obtain ⟨h1, h2, h3, h4, h5⟩ := h
  refine ⟨_, rfl, ⟨by go_simp, by go_simp, by go_simp, by go_simp, by simpa [World.setCell] using h5⟩, grown_set _ _ _ _⟩
theorem Box.set {w : World} {g : Nat} {a b : Value} (h : Box w g a b) (a' b' : Value) : ∃ w', w' = (w.setCell ⟨g, 0, none⟩ a').setCell ⟨g, 1, none⟩ b' ∧ Box w' g a' b' ∧ w.grownBy w' (some g) := by
  obtain ⟨w1, e1, h1, g1⟩ := h.set0 a'
  obtain ⟨w2, e2, h2, g2⟩ := h1.set1 b'
  exact ⟨w2, by rw [e2, e1], h2, grown_trans g1 g2⟩
theorem own_len {w : World} {base n size : Nat} {e : TypeId} {v : Value} {xs : List Value} (h : w.ownsRow base e size v n xs) : ∃ ao cp, v = .slice ao n cp := by
  rcases h.2 with ⟨rfl, hn⟩ | ⟨g, cap, cur, rfl, _⟩
  · exact ⟨none, 0, by rw [hn]⟩
  · exact ⟨_, _, rfl⟩
end Go.Proofs.Ytbnickgjnglblaa
/- Contracts of the reference's claims and stories. -/
namespace Go.Proofs.Ytbnickgjnglblaa
open Go.RowKit Go.Joins
theorem new_two (w : World) (a b : Value) (T : TypeId) : ∃ w1 : World, w1 = w.alloc (.cells #[a, b] T) ∧ w1.cell? ⟨w.heap.size, 0, none⟩ = some a ∧ w1.cell? ⟨w.heap.size, 1, none⟩ = some b ∧ Below w.heap.size w w1 ∧ w.heap.size < w1.heap.size := by
  refine ⟨_, rfl, ?_, ?_, (Below.refl _ _).alloc (Nat.le_refl _) _, by simp⟩
  · have := cell_of_row (w.alloc (.cells #[a, b] T)) w.heap.size 0 _ T (0, 0) (heap_alloc_new w _)
    rw [this]; rfl
  · have := cell_of_row (w.alloc (.cells #[a, b] T)) w.heap.size 1 _ T (0, 0) (heap_alloc_new w _)
    rw [this]; rfl
theorem below_drew1 {B : Nat} {a w : World} (h : Below B a w) : Below B a w.drew := h.trans ⟨rfl, rfl, rfl, Nat.le_refl _, fun _ _ => rfl⟩
attribute [local irreducible] holds tabN tabV holdsV sameV followsV alwaysV matterV claimOk mayT mayV ctabV ctabN storyV storyOk storyN storyT
/-- of a claim that is one: its term, and who makes it as a number -/
theorem claim_parts {p k : Int} {ms : List (Int × Int)} (h : claimOk p (k, ms) = true) : ∃ (K : Nat) (t : Tm), k = K ∧ K < 4 ∧ p ≤ 4 ∧ 1 ≤ p ∧ t.ok p ∧ ms = t.post ∧ t.post.length ≤ 13 ∧ termOk p ms = true ∧ ∀ W, mayT p (k, ms) W = (W.testBit K == holds W t) := by
  obtain ⟨h1, h2, h3, h4⟩ := claimOk_iff.1 h
  obtain ⟨hp, _, t, ht, hpost⟩ := termOk_iff.1 h3
  dsimp only at h1 h2 h3 h4 hpost
  obtain ⟨K, rfl⟩ := Int.eq_ofNat_of_zero_le h1
  refine ⟨K, t, rfl, by omega, hp.2, hp.1, ht, hpost, by rw [← hpost]; exact h4, h3, fun W => ?_⟩
  unfold mayT
  dsimp only
  rw [hpost, tmOf_post ht, Int.toNat_natCast]
end Go.Proofs.Ytbnickgjnglblaa
/- Contracts of the reference's claims and stories: terms of claims, stories and their tables. -/
namespace Go.Proofs.Ytbnickgjnglblaa
open Go.RowKit Go.Joins
attribute [local irreducible] holds tabN tabV holdsV sameV followsV alwaysV matterV claimOk mayT mayV ctabV ctabN storyV storyOk storyN storyT ctermV ctermL
theorem RdMarks.cells {w : World} {B b off n cap : Nat} {ms : List (Int × Int)} (h : RdMarks w B (.slice (some ⟨b, off, none⟩) n cap) ms) : ∀ (j : Nat) (u : Value), (mcells ms)[j]? = some u → w.cell? ((⟨b, off, none⟩ : Addr).add j) = some u := by
  intro j u hj
  obtain ⟨ao, cap', hv, hl, _, _, hc⟩ := h
  cases hv
  have hlt : j < ms.length * 2 := by
    rw [← mcells_length]
    exact (List.getElem?_eq_some_iff.1 hj).1
  obtain ⟨b', off', he, _, h1, h2⟩ := hc (j / 2) (by omega)
  cases he
  obtain ⟨g1, g2⟩ := mcells_get ms (j / 2) (by omega)
  have e : (⟨b, off, none⟩ : Addr).add j = ⟨b, off + j, none⟩ := by simp [Addr.add]
  rw [e]
  rcases Nat.mod_two_eq_zero_or_one j with hm | hm
  · have ej : j = j / 2 * 2 := by omega
    rw [ej] at hj ⊢
    rw [g1] at hj
    cases hj
    exact h1
  · have ej : j = j / 2 * 2 + 1 := by omega
    rw [ej] at hj ⊢
    rw [g2] at hj
    cases hj
    exact h2
/-- what a call hands back that returns marks in memory of its own -/
def RowOut (ms : List (Int × Int)) (w : World) (e : Ending) (w' : World) : Prop := ∃ v, e = .returned v ∧ w'.ownsRow w.heap.size TM 2 v ms.length (mcells ms) ∧ Below w.heap.size w w'
theorem ctermV_no {p : Int} {c : Cl} (h : claimOk p c = false) : ctermV p c = [] := by unfold ctermV; rw [h]; rfl
theorem ctermV_yes {p : Int} {c : Cl} (h : claimOk p c = true) : ctermV p c = ctermL c := by unfold ctermV; rw [h]; rfl
theorem ctermL_cells (k : Int) (ms : List (Int × Int)) : (ctermL (k, ms)).length = 1 + ms.length + 1 ∧ mcells (ctermL (k, ms)) = mcells [(0, k)] ++ mcells ms ++ mcells [(5, 0)] := by
  unfold ctermL
  refine ⟨by simp; omega, ?_⟩
  rw [mcells_append]; rfl
/-! ### stories -/
theorem all_take_succ (p : Int) (qs : List QC) (j : Nat) (hj : j < qs.length) : ((qs.take (j + 1)).all fun q => claimOk p q.2) = (((qs.take j).all fun q => claimOk p q.2) && claimOk p (qs.getD j qc0).2) := by
  have e : qs.getD j qc0 = qs[j] := by simp [List.getD, hj]
  rw [List.take_succ_eq_append_getElem hj, List.all_append, e]
  simp
theorem storyOk_no {p : Int} {qs : List QC} {j : Nat} (hj : j < qs.length) (h : claimOk p (qs.getD j qc0).2 = false) : storyOk p (qs.map (·.2)) = false := by
  have e : qs.getD j qc0 = qs[j] := by simp [List.getD, hj]
  rw [e] at h
  cases hs : storyOk p (qs.map (·.2)) with
  | false => rfl
  | true =>
    have := (storyOk_iff.1 hs).1 qs[j].2 (List.mem_map.2 ⟨_, List.getElem_mem hj, rfl⟩)
    rw [h] at this; cases this
theorem storyOk_all {p : Int} {qs : List QC} (h : ((qs.take qs.length).all fun q => claimOk p q.2) = true) : storyOk p (qs.map (·.2)) = (pOk p && decide (qs.length ≤ 6)) := by
  rw [List.take_length] at h
  unfold storyOk
  rw [List.all_map, show (qs.all (claimOk p ∘ fun x => x.2)) = true from h, List.length_map]
  rfl
theorem story_take (p : Int) (qs : List QC) (j : Nat) (hj : j < qs.length) : storyN p ((qs.take (j + 1)).map (·.2)) = storyN p ((qs.take j).map (·.2)) &&& ctabN p (qs.getD j qc0).2 := by
  have e : qs.getD j qc0 = qs[j] := by simp [List.getD, hj]
  rw [List.take_succ_eq_append_getElem hj, List.map_append, e]
  exact storyN_snoc p _ _
end Go.Proofs.Ytbnickgjnglblaa
