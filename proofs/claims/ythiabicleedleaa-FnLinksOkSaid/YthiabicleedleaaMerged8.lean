/- Texts of a proof, merged: OneM, Heads, LinkM, Links, Claim. -/
import Derived.Test.YthiabicleedleaaMerged7
import Derived.Test.YthiabicleedleaaPeople
import Derived.Test.YthiabicleedleaaMerged0
import Derived.Test.YthiabicleedleaaMerged6
/- Stories with one answer: the mathematics, without code. -/
namespace Go.Proofs.Ythiabicleedleaa
open Go.RowKit
/-- the worlds of a story -/
def swl (p : Int) (s : List Cl) : List Nat := wlp p (storyV p s)
def clashV (p : Int) (s : List Cl) : Bool := storyOk p s && decide (storyN p s = 0)
def onlyOk (p : Int) (s : List Cl) : Bool := decide ((swl p s).length = 1)
def onlyN (p : Int) (s : List Cl) : Int := if (swl p s).length = 1 then ((swl p s).getD 0 0 : Int) else -1
/-- in how many of some worlds a person tells the truth -/
def cntK (l : List Nat) (k : Nat) : Nat := l.countP fun x => x.testBit k
def knownK (l : List Nat) (k : Nat) : Int := if cntK l k = 0 then 0 else if cntK l k = l.length then 1 else -1
def knownF (p : Int) (l : List Nat) : List Int := if l = [] then [] else (List.range p.toNat).map (knownK l)
def knownL (p : Int) (s : List Cl) : List Int := knownF p (swl p s)
/-- a list without the element at a place -/
def woL {α : Type} (s : List α) (k : Nat) : List α := s.take k ++ s.drop (k + 1)
def needB (p : Int) (s : List Cl) (k : Nat) : Bool := decide (storyN p (woL s k) = storyN p s)
def needF (p : Int) (s : List Cl) (n : Nat) : List Nat := (List.range n).filter (needB p s)
def needL (p : Int) (s : List Cl) : List Nat := if storyOk p s then needF p s s.length else []
/-- what is left of a list, of which the first part stays, if each further element is left out where N is the same without it -/
def leastR {α : Type} (N : List α → Nat) (d : List α) : List α → List α
  | [] => d
  | c :: r => if N (d ++ r) = N (d ++ c :: r) then leastR N d r else leastR N (d ++ [c]) r
def leastV (p : Int) (s : List Cl) : List Cl := if storyOk p s then leastR (storyN p) [] s else []
/-! ### worlds of stories -/
theorem swl_no {p : Int} {s : List Cl} (h : storyOk p s = false) : swl p s = [] := by
  unfold swl
  rw [storyV_no h]
  refine wlp_no ?_
  cases ht : tOk p (-1) with
  | false => rfl
  | true => have := (tOk_iff.1 ht).2.2.1; omega
theorem story_tOk {p : Int} {s : List Cl} (h : storyOk p s = true) : tOk p (storyN p s) = true := by
  obtain ⟨_, hp, _⟩ := storyOk_iff.1 h
  obtain ⟨h1, h4⟩ : 1 ≤ p ∧ p ≤ 4 := by simpa [pOk] using hp
  refine tOk_iff.2 ⟨h1, h4, by omega, ?_⟩
  have := tabF_lt (2 ^ p.toNat) (storyT p s)
  exact_mod_cast this
theorem swl_yes {p : Int} {s : List Cl} (h : storyOk p s = true) : swl p s = wl (storyN p s) (2 ^ p.toNat) := by
  unfold swl
  rw [storyV_yes h, wlp_yes (story_tOk h), Int.toNat_natCast]
theorem swl_mem {p : Int} {s : List Cl} (h : storyOk p s = true) {x : Nat} : x ∈ swl p s ↔ x < 2 ^ p.toNat ∧ storyT p s x = true := by
  rw [swl_yes h, wl_mem]
  unfold storyN
  rw [tabF_bit]
  constructor
  · rintro ⟨h1, h2⟩; exact ⟨h1, by simpa [h1] using h2⟩
  · rintro ⟨h1, h2⟩; exact ⟨h1, by simp [h1, h2]⟩
theorem storyN_zero {p : Int} {s : List Cl} : storyN p s = 0 ↔ ∀ x, x < 2 ^ p.toNat → storyT p s x = false := by
  unfold storyN
  constructor
  · intro h x hx
    have := congrArg (fun n => n.testBit x) h
    simpa [tabF_bit, hx] using this
  · intro h
    refine Nat.eq_of_testBit_eq fun j => ?_
    rw [tabF_bit, Nat.zero_testBit]
    by_cases hj : j < 2 ^ p.toNat
    · simp [hj, h j hj]
    · simp [hj]
theorem swl_nil {p : Int} {s : List Cl} (h : storyOk p s = true) : swl p s = [] ↔ storyN p s = 0 := by
  rw [storyN_zero, List.eq_nil_iff_forall_not_mem]
  constructor
  · intro hn x hx
    cases ht : storyT p s x with
    | false => rfl
    | true => exact absurd ((swl_mem h).2 ⟨hx, ht⟩) (hn x)
  · intro hz x hx
    obtain ⟨h1, h2⟩ := (swl_mem h).1 hx
    rw [hz x h1] at h2; cases h2
theorem swl_lt {p : Int} {s : List Cl} {x : Nat} (h : x ∈ swl p s) : storyOk p s = true ∧ x < 2 ^ p.toNat ∧ storyT p s x = true := by
  cases hs : storyOk p s with
  | false => rw [swl_no hs] at h; cases h
  | true => exact ⟨rfl, (swl_mem hs).1 h⟩
theorem swl_nodup (p : Int) (s : List Cl) : (swl p s).Nodup := by
  cases hs : storyOk p s with
  | false => rw [swl_no hs]; exact List.nodup_nil
  | true => rw [swl_yes hs]; unfold wl; exact List.nodup_range.filter _
theorem swl_len (p : Int) (s : List Cl) : (swl p s).length ≤ 16 := by
  cases hs : storyOk p s with
  | false => rw [swl_no hs]; simp
  | true =>
    obtain ⟨_, hp, _⟩ := storyOk_iff.1 hs
    obtain ⟨h1, h4⟩ : 1 ≤ p ∧ p ≤ 4 := by simpa [pOk] using hp
    rw [swl_yes hs]
    have h3 : 2 ^ p.toNat ≤ 16 := two16 (by omega)
    have := wl_le (storyN p s) (2 ^ p.toNat)
    omega
/-! ### clashes -/
theorem clash_snoc {p : Int} {s : List Cl} {c : Cl} (h : storyOk p s = true) (h' : storyOk p (s ++ [c]) = true) (hc : clashV p s = true) : clashV p (s ++ [c]) = true := by
  unfold clashV at hc ⊢
  rw [h] at hc
  rw [h', storyN_snoc]
  simp at hc ⊢
  rw [hc]; simp
theorem clash_liar {p : Int} {s : List Cl} (h' : storyOk p (s ++ [(0, [(0, 0), (2, 0)])]) = true) : clashV p (s ++ [(0, [(0, 0), (2, 0)])]) = true := by
  have hc : claimOk p (0, [(0, 0), (2, 0)]) = true := (storyOk_iff.1 h').1 _ (by simp)
  obtain ⟨h1, h2, h3, _⟩ := claimOk_iff.1 hc
  dsimp only at h1 h2 h3
  have hp := p_of h3
  have hok : (Tm.un (.leaf 0 0)).ok p := by simp only [Tm.ok]; exact .inl ⟨by trivial, h1, h2⟩
  have ht : tmOf p [(0, 0), (2, 0)] = .un (.leaf 0 0) := tmOf_post (t := .un (.leaf 0 0)) hok
  unfold clashV
  rw [h', Bool.true_and, decide_eq_true_eq, storyN_zero]
  intro x _
  rw [storyT_snoc]
  have hm : mayT p (0, [(0, 0), (2, 0)]) x = false := by
    unfold mayT
    dsimp only
    rw [ht, holds_un, holds, if_pos rfl]
    cases x.testBit (Int.toNat 0) <;> rfl
  rw [hm, Bool.and_false]
theorem clash_again {p : Int} {s : List Cl} {c : Cl} (hc : c ∈ s) (h : storyOk p s = true) (h' : storyOk p (s ++ [c]) = true) : clashV p (s ++ [c]) = clashV p s := by
  unfold clashV
  rw [h, h', storyN_ext (s := s ++ [c]) (r := s) (fun d => by simp; intro e; subst e; exact hc)]
theorem clash_nil (p : Int) : clashV p [] = false := by
  unfold clashV
  cases h : storyOk p [] with
  | false => rfl
  | true =>
    rw [storyN_nil, Bool.true_and, decide_eq_false_iff_not]
    have : 2 ^ 1 ≤ 2 ^ (2 ^ p.toNat) := Nat.pow_le_pow_right (by decide) (Nat.two_pow_pos _)
    omega
theorem clash_no {p : Int} {s : List Cl} (h : storyOk p s = false) : clashV p s = false := by simp [clashV, h]
/-! ### known people -/
theorem cntK_le (l : List Nat) (k : Nat) : cntK l k ≤ l.length := List.countP_le_length
theorem cntK_zero {l : List Nat} {k : Nat} : cntK l k = 0 ↔ ∀ x ∈ l, x.testBit k = false := by simp [cntK]
theorem cntK_all {l : List Nat} {k : Nat} : cntK l k = l.length ↔ ∀ x ∈ l, x.testBit k = true := by unfold cntK; rw [List.countP_eq_length]
theorem known_one {l : List Nat} {k : Nat} (hl : l ≠ []) : knownK l k = 1 ↔ ∀ x ∈ l, x.testBit k = true := by
  unfold knownK
  have hl' : 0 < l.length := List.length_pos_iff.2 hl
  rw [← cntK_all]
  split
  · exact ⟨fun h => by simp at h, fun h => by omega⟩
  · split
    · rename_i h; exact ⟨fun _ => h, fun _ => rfl⟩
    · rename_i h; exact ⟨fun h' => by simp at h', fun h' => absurd h' h⟩
theorem known_zero {l : List Nat} {k : Nat} : knownK l k = 0 ↔ ∀ x ∈ l, x.testBit k = false := by
  unfold knownK
  rw [← cntK_zero]
  split
  · rename_i h; exact ⟨fun _ => h, fun _ => rfl⟩
  · rename_i h
    split
    · exact ⟨fun h' => by simp at h', fun h' => absurd h' h⟩
    · exact ⟨fun h' => by simp at h', fun h' => absurd h' h⟩
theorem known_cases (l : List Nat) (k : Nat) : knownK l k = 0 ∨ knownK l k = 1 ∨ knownK l k = -1 := by
  unfold knownK
  split
  · exact .inl rfl
  · split
    · exact .inr (.inl rfl)
    · exact .inr (.inr rfl)
theorem known_not {l : List Nat} {k : Nat} (hl : l ≠ []) (h : knownK l k = -1) : (∃ x ∈ l, x.testBit k = true) ∧ ∃ x ∈ l, x.testBit k = false := by
  have h0 : ¬ ∀ x ∈ l, x.testBit k = false := fun hh => by rw [known_zero.2 hh] at h; cases h
  have h1 : ¬ ∀ x ∈ l, x.testBit k = true := fun hh => by rw [(known_one hl).2 hh] at h; cases h
  refine ⟨?_, ?_⟩
  · refine Classical.byContradiction fun hn => h0 fun x hx => ?_
    cases hb : x.testBit k with
    | false => rfl
    | true => exact absurd ⟨x, hx, hb⟩ hn
  · refine Classical.byContradiction fun hn => h1 fun x hx => ?_
    cases hb : x.testBit k with
    | true => rfl
    | false => exact absurd ⟨x, hx, hb⟩ hn
theorem knownL_len {p : Int} {l : List Nat} : (knownF p l).length = if l = [] then 0 else p.toNat := by
  unfold knownF
  split <;> simp
theorem knownL_get {p : Int} {l : List Nat} {k : Nat} (hl : l ≠ []) (hk : k < p.toNat) : (knownF p l).getD k 0 = knownK l k := by
  unfold knownF
  rw [if_neg hl]
  simp [List.getD, hk]
theorem bits_differ {x y P : Nat} (hx : x < 2 ^ P) (hy : y < 2 ^ P) (h : x ≠ y) : ∃ k, k < P ∧ x.testBit k ≠ y.testBit k := by
  refine Classical.byContradiction fun hn => h (bit_ext hx hy fun j hj => ?_)
  refine Classical.byContradiction fun hne => hn ⟨j, hj, hne⟩
/-- there is one world alone just if something is known of everybody -/
theorem only_iff {p : Int} {s : List Cl} (hs : swl p s ≠ []) : (swl p s).length = 1 ↔ ∀ k, k < p.toNat → knownK (swl p s) k ≠ -1 := by
  constructor
  · intro h k _ hk
    obtain ⟨⟨x, hx, hx1⟩, y, hy, hy1⟩ := known_not hs hk
    match hm : swl p s, h with
    | [z], _ =>
      rw [hm] at hx hy
      simp at hx hy
      subst hx; subst hy
      rw [hx1] at hy1; cases hy1
  · intro h
    match hm : swl p s with
    | [] => exact absurd hm hs
    | [z] => rfl
    | x :: y :: r =>
      exfalso
      have hnd := swl_nodup p s
      rw [hm] at hnd
      have hne : x ≠ y := by intro e; subst e; simp at hnd
      have hx := swl_lt (p := p) (s := s) (x := x) (by rw [hm]; simp)
      have hy := swl_lt (p := p) (s := s) (x := y) (by rw [hm]; simp)
      obtain ⟨k, hk, hb⟩ := bits_differ hx.2.1 hy.2.1 hne
      refine h k hk ?_
      rw [hm]
      rcases known_cases (x :: y :: r) k with h0 | h1 | h2
      · have := known_zero.1 h0
        exact absurd ((this x (by simp)).trans (this y (by simp)).symm) hb
      · have := (known_one (by simp)).1 h1
        exact absurd ((this x (by simp)).trans (this y (by simp)).symm) hb
      · exact h2
theorem only_known {p : Int} {s : List Cl} {z : Nat} (h : swl p s = [z]) (k : Nat) : knownK (swl p s) k = if z.testBit k then 1 else 0 := by
  rw [h]
  cases hb : z.testBit k with
  | true => exact (known_one (by simp)).2 (by simpa using hb)
  | false => exact known_zero.2 (by simpa using hb)
theorem only_may {p : Int} {s : List Cl} {z : Nat} (h : swl p s = [z]) {W : Nat} (hW : W < 2 ^ p.toNat) : storyT p s W = decide (W = z) := by
  have hz := swl_lt (p := p) (s := s) (x := z) (by rw [h]; simp)
  have := swl_mem hz.1 (x := W)
  rw [h] at this
  simp [hW] at this
  rw [Bool.eq_iff_iff, decide_eq_true_eq]
  exact this.symm
theorem known_more {l l' : List Nat} {k : Nat} (hsub : ∀ x ∈ l', x ∈ l) (hl' : l' ≠ []) (h : knownK l k ≠ -1) : knownK l' k = knownK l k := by
  have hl : l ≠ [] := by
    intro e; subst e
    obtain ⟨x, hx⟩ := List.exists_mem_of_ne_nil _ hl'
    cases hsub x hx
  rcases known_cases l k with h0 | h1 | h2
  · rw [h0]; exact known_zero.2 fun x hx => known_zero.1 h0 x (hsub x hx)
  · rw [h1]; exact (known_one hl').2 fun x hx => (known_one hl).1 h1 x (hsub x hx)
  · exact absurd h2 h
theorem swl_snoc {p : Int} {s : List Cl} {c : Cl} (h : storyOk p s = true) : ∀ x ∈ swl p (s ++ [c]), x ∈ swl p s := by
  intro x hx
  obtain ⟨h1, h2, h3⟩ := swl_lt hx
  rw [storyT_snoc] at h3
  simp at h3
  exact (swl_mem h).2 ⟨h2, h3.1⟩
/-! ### needless claims -/
theorem woL_len {α : Type} {s : List α} {k : Nat} (hk : k < s.length) : (woL s k).length = s.length - 1 := by simp [woL]; omega
theorem woL_mem {α : Type} {s : List α} {k : Nat} {c : α} (h : c ∈ woL s k) : c ∈ s := by
  rcases List.mem_append.1 h with h | h
  · exact List.mem_of_mem_take h
  · exact List.mem_of_mem_drop h
theorem woL_map {α β : Type} (f : α → β) (s : List α) (k : Nat) : (woL s k).map f = woL (s.map f) k := by simp [woL]
theorem woL_ok {p : Int} {s : List Cl} {k : Nat} (h : storyOk p s = true) : storyOk p (woL s k) = true :=
  storyOk_sub h (by simp [woL]; omega) (fun _ hc => woL_mem hc)
theorem storyT_wo {p : Int} {s : List Cl} {k : Nat} (hk : k < s.length) (W : Nat) : storyT p s W = (storyT p (woL s k) W && mayT p (s[k]) W) := by
  have e : s = s.take k ++ s[k] :: s.drop (k + 1) := by simp
  have h1 : storyT p s W = storyT p (s.take k ++ s[k] :: s.drop (k + 1)) W := by rw [← e]
  rw [h1]
  unfold storyT woL
  simp only [List.all_append, List.all_cons]
  cases (s.take k).all (fun c => mayT p c W) <;> cases mayT p s[k] W <;> simp
theorem need_iff {p : Int} {s : List Cl} {k : Nat} : needB p s k = true ↔ ∀ W, W < 2 ^ p.toNat → storyT p (woL s k) W = storyT p s W := by
  unfold needB storyN
  rw [decide_eq_true_eq, tabF_ext]
theorem needL_no {p : Int} {s : List Cl} (h : storyOk p s = false) : needL p s = [] := by simp [needL, h]
theorem needL_yes {p : Int} {s : List Cl} (h : storyOk p s = true) : needL p s = needF p s s.length := by simp [needL, h]
theorem needF_succ (p : Int) (s : List Cl) (n : Nat) : needF p s (n + 1) = needF p s n ++ if needB p s n then [n] else [] := by
  unfold needF; rw [List.range_succ, List.filter_append]; simp [List.filter_cons]
theorem needF_mem {p : Int} {s : List Cl} {n k : Nat} : k ∈ needF p s n ↔ k < n ∧ needB p s k = true := by simp [needF]
theorem needF_len (p : Int) (s : List Cl) (n : Nat) : (needF p s n).length ≤ n := by
  unfold needF; have := List.length_filter_le (needB p s) (List.range n); simpa using this
theorem need_twice {p : Int} {s : List Cl} (hs : 0 < s.length) : needB p (s ++ [s[0]]) 0 = true ∧ needB p (s ++ [s[0]]) s.length = true := by
  match s, hs with
  | c :: r, _ =>
    refine ⟨?_, ?_⟩
    · unfold needB
      rw [decide_eq_true_eq]
      exact storyN_ext fun d => by simp [woL]; exact fun e => .inr e
    · unfold needB
      rw [decide_eq_true_eq]
      exact storyN_ext fun d => by
        simp [woL]
        constructor
        · rintro (h | h)
          · exact .inl h
          · exact .inr (.inl h)
        · rintro (h | h | h)
          · exact .inl h
          · exact .inr h
          · exact .inl h
theorem wl_asc (T n : Nat) : ∀ j, j + 1 < (wl T n).length → (wl T n).getD j 0 < (wl T n).getD (j + 1) 0 := by
  intro j hj
  have h : (wl T n).Pairwise (· < ·) := List.pairwise_lt_range.filter _
  have := List.pairwise_iff_getElem.1 h j (j + 1) (by omega) hj (by omega)
  simpa [List.getD, hj, show j < (wl T n).length by omega] using this
theorem needF_asc (p : Int) (s : List Cl) (n : Nat) : ∀ j, j + 1 < (needF p s n).length → (needF p s n).getD j 0 < (needF p s n).getD (j + 1) 0 := by
  intro j hj
  have h : (needF p s n).Pairwise (· < ·) := List.pairwise_lt_range.filter _
  have := List.pairwise_iff_getElem.1 h j (j + 1) (by omega) hj (by omega)
  simpa [List.getD, hj, show j < (needF p s n).length by omega] using this
/-! ### least stories -/
theorem least_map {α β : Type} (f : α → β) (N : List β → Nat) (r : List α) : ∀ d : List α, (leastR (fun l => N (l.map f)) d r).map f = leastR N (d.map f) (r.map f) := by
  induction r with
  | nil => intro d; rfl
  | cons c r ih =>
    intro d
    simp only [leastR, List.map_cons, List.map_append]
    split
    · exact ih d
    · rw [ih (d ++ [c])]; simp
theorem least_same {α : Type} (N : List α → Nat) (r : List α) : ∀ d, N (leastR N d r) = N (d ++ r) := by
  induction r with
  | nil => intro d; simp [leastR]
  | cons c r ih =>
    intro d
    simp only [leastR]
    split
    · rename_i h; rw [ih d, h]
    · rw [ih (d ++ [c])]; simp
theorem least_sub {α : Type} (N : List α → Nat) (r : List α) : ∀ d, (leastR N d r).Sublist (d ++ r) := by
  induction r with
  | nil => intro d; simp [leastR]
  | cons c r ih =>
    intro d
    simp only [leastR]
    split
    · exact (ih d).trans (List.Sublist.append_left (List.sublist_cons_self c r) d)
    · have := ih (d ++ [c]); simpa using this
theorem storyT_sub {p : Int} {s r : List Cl} (h : ∀ c ∈ r, c ∈ s) {W : Nat} (hs : storyT p s W = true) : storyT p r W = true := by
  unfold storyT at hs ⊢
  rw [List.all_eq_true] at hs ⊢
  exact fun c hc => hs c (h c hc)
/-- no claim of the first n ones is needless -/
def Crit (p : Int) (s : List Cl) (n : Nat) : Prop := ∀ i, i < n → ∃ W, W < 2 ^ p.toNat ∧ storyT p (woL s i) W = true ∧ storyT p s W = false
theorem crit_need {p : Int} {s : List Cl} {n : Nat} (h : Crit p s n) {i : Nat} (hi : i < n) : needB p s i = false := by
  cases hb : needB p s i with
  | false => rfl
  | true =>
    obtain ⟨W, hW, h1, h2⟩ := h i hi
    rw [need_iff.1 hb W hW, h2] at h1; cases h1
theorem need_crit {p : Int} {s : List Cl} {i : Nat} (hi : i < s.length) (h : needB p s i = false) : ∃ W, W < 2 ^ p.toNat ∧ storyT p (woL s i) W = true ∧ storyT p s W = false := by
  refine Classical.byContradiction fun hn => ?_
  have : needB p s i = true := need_iff.2 fun W hW => by
    cases h1 : storyT p (woL s i) W with
    | true =>
      cases h2 : storyT p s W with
      | true => rfl
      | false => exact absurd ⟨W, hW, h1, h2⟩ hn
    | false => rw [storyT_wo hi, h1, Bool.false_and]
  rw [h] at this; cases this
theorem least_crit {p : Int} (r : List Cl) : ∀ d, Crit p (d ++ r) d.length → Crit p (leastR (storyN p) d r) (leastR (storyN p) d r).length := by
  induction r with
  | nil => intro d h; simpa [leastR] using h
  | cons c r ih =>
    intro d h
    have hwo : woL (d ++ c :: r) d.length = d ++ r := by simp [woL]
    simp only [leastR]
    split
    · rename_i he
      refine ih d fun i hi => ?_
      obtain ⟨W, hW, h1, h2⟩ := h i hi
      have hn : needB p (d ++ c :: r) d.length = true := by unfold needB; rw [hwo, decide_eq_true_eq]; exact he
      have hs := need_iff.1 hn W hW
      rw [hwo] at hs
      refine ⟨W, hW, storyT_sub (fun e hm => ?_) h1, by rw [hs, h2]⟩
      unfold woL at hm ⊢
      rw [List.take_append_of_le_length (by omega), List.drop_append_of_le_length (by omega)] at hm
      rw [List.take_append_of_le_length (by omega), List.drop_append_of_le_length (by omega)]
      simp only [List.mem_append, List.mem_cons] at hm ⊢
      rcases hm with hm | hm | hm
      · exact .inl hm
      · exact .inr (.inl hm)
      · exact .inr (.inr (.inr hm))
    · rename_i he
      have e : d ++ c :: r = (d ++ [c]) ++ r := by simp
      rw [e] at h hwo
      refine ih (d ++ [c]) fun i hi => ?_
      rw [List.length_append, List.length_singleton] at hi
      by_cases hid : i < d.length
      · exact h i hid
      · obtain rfl : i = d.length := by omega
        refine need_crit (by simp) ?_
        unfold needB
        rw [hwo, decide_eq_false_iff_not]
        simpa using he
theorem least_stays {p : Int} (r : List Cl) : ∀ d, (∀ i, d.length ≤ i → i < (d ++ r).length → needB p (d ++ r) i = false) → leastR (storyN p) d r = d ++ r := by
  induction r with
  | nil => intro d _; simp [leastR]
  | cons c r ih =>
    intro d h
    have hwo : woL (d ++ c :: r) d.length = d ++ r := by simp [woL]
    have hn := h d.length (Nat.le_refl _) (by simp)
    unfold needB at hn
    rw [hwo, decide_eq_false_iff_not] at hn
    simp only [leastR]
    rw [if_neg hn, ih (d ++ [c]) (fun i h1 h2 => by
      have := h i (by simp at h1; omega) (by simpa using h2)
      simpa using this)]
    simp
theorem leastV_no {p : Int} {s : List Cl} (h : storyOk p s = false) : leastV p s = [] := by simp [leastV, h]
theorem leastV_yes {p : Int} {s : List Cl} (h : storyOk p s = true) : leastV p s = leastR (storyN p) [] s := by simp [leastV, h]
/-- what is left of a story is one with the same worlds, of which nothing is needless, and which stays -/
theorem least_all {p : Int} {s : List Cl} (h : storyOk p s = true) : storyOk p (leastV p s) = true ∧ storyN p (leastV p s) = storyN p s ∧ needL p (leastV p s) = [] ∧ leastV p (leastV p s) = leastV p s := by
  rw [leastV_yes h]
  have hsub := least_sub (storyN p) s []
  rw [List.nil_append] at hsub
  have hok : storyOk p (leastR (storyN p) [] s) = true := storyOk_sub h hsub.length_le (fun c hc => hsub.subset hc)
  have hcr := least_crit (p := p) s [] (fun i hi => by simp at hi)
  refine ⟨hok, by rw [least_same (storyN p)]; simp, ?_, ?_⟩
  · rw [needL_yes hok, List.eq_nil_iff_forall_not_mem]
    intro k hk
    obtain ⟨h1, h2⟩ := needF_mem.1 hk
    rw [crit_need hcr h1] at h2; cases h2
  · rw [leastV_yes hok]
    have := least_stays (p := p) (leastR (storyN p) [] s) [] (fun i _ hi => crit_need hcr (by simpa using hi))
    simpa using this
end Go.Proofs.Ythiabicleedleaa
/- How many bits of a number are 1, and the list of them. -/
namespace Go.Proofs.Ythiabicleedleaa
open Go.RowKit
theorem heads_nil9 : heads 0 = 0 := headsF_zero 64
theorem wl_len_step9 (T : Nat) : ∀ k, (wl T (k + 1)).length = T % 2 + (wl (T / 2) k).length := by
  intro k
  induction k with
  | zero =>
    rw [wl_succ, List.length_append]
    have h := bit_mod T 0
    rw [Nat.shiftRight_zero] at h
    rw [h]
    cases T.testBit 0 <;> rfl
  | succ k ih =>
    rw [wl_succ, List.length_append, ih, wl_succ (T / 2) k, List.length_append, Nat.testBit_succ]
    cases (T / 2).testBit k <;> simp <;> omega
theorem wl_heads9 : ∀ (N T : Nat), N ≤ 32 → T < 2 ^ N → (wl T N).length = heads T := by
  intro N
  induction N with
  | zero =>
    intro T _ h
    obtain rfl : T = 0 := by simpa using h
    rw [heads_nil9]; rfl
  | succ N ih =>
    intro T hN h
    have h32 : 2 ^ (N + 1) ≤ 2 ^ 32 := Nat.pow_le_pow_right (by omega) hN
    rw [wl_len_step9, heads_step T (by omega), ih (T / 2) (by omega) (by rw [Nat.pow_succ] at h; omega)]
end Go.Proofs.Ythiabicleedleaa
/- Links: the mathematics, without code. -/
namespace Go.Proofs.Ythiabicleedleaa
open Go.RowKit
/-- who says it, of whom, and whether it is that this one tells the truth -/
abbrev Lk := Int × Int × Bool
def lk0 : Lk := (0, 0, false)
def linkOk1 (p : Int) (l : Lk) : Bool := decide (0 ≤ l.1 ∧ l.1 < p ∧ 0 ≤ l.2.1 ∧ l.2.1 < p)
def linksOk (p : Int) (ls : List Lk) : Bool := ls.all (linkOk1 p) && (pOk p && decide (ls.length ≤ 6))
def linkC (p : Int) (l : Lk) : Cl := kindV p l.1 l.2.1 l.2.2
def linkS (p : Int) (ls : List Lk) : List Cl := if linksOk p ls then ls.map (linkC p) else []
/-- whether a link holds in a world -/
def satL (l : Lk) (W : Nat) : Bool := (W.testBit l.1.toNat == W.testBit l.2.1.toNat) == l.2.2
def mergeR (r : List Nat) (i j : Nat) : List Nat := r.map fun z => if z = max (r.getD i 0) (r.getD j 0) then min (r.getD i 0) (r.getD j 0) else z
/-- the groups of links, each told by its least person -/
def grpF (P : Nat) (ls : List Lk) : List Nat := ls.foldl (fun r l => mergeR r l.1.toNat l.2.1.toNat) (List.range P)
def grpL (p : Int) (ls : List Lk) : List Nat := if linksOk p ls then grpF p.toNat ls else []
def lwV (p : Int) (ls : List Lk) : Int := if linksOk p ls then (heads (storyN p (linkS p ls)) : Int) else -1
theorem linksOk_iff {p : Int} {ls : List Lk} : linksOk p ls = true ↔ (∀ l ∈ ls, 0 ≤ l.1 ∧ l.1 < p ∧ 0 ≤ l.2.1 ∧ l.2.1 < p) ∧ 1 ≤ p ∧ p ≤ 4 ∧ ls.length ≤ 6 := by
  unfold linksOk linkOk1 pOk
  simp [and_assoc]
theorem linkS_yes {p : Int} {ls : List Lk} (h : linksOk p ls = true) : linkS p ls = ls.map (linkC p) := by unfold linkS; rw [h]; rfl
theorem linkS_no {p : Int} {ls : List Lk} (h : linksOk p ls = false) : linkS p ls = [] := by unfold linkS; rw [h]; rfl
theorem link_kind {p : Int} {ls : List Lk} (h : linksOk p ls = true) {l : Lk} (hl : l ∈ ls) : kindOk p l.1 l.2.1 l.2.2 = true := by
  obtain ⟨h1, h2, h3, _⟩ := linksOk_iff.1 h
  obtain ⟨a, b, c, d⟩ := h1 l hl
  exact kind_ok.2 ⟨h2, h3, a, b, c, d⟩
theorem link_may {p : Int} {ls : List Lk} (h : linksOk p ls = true) {l : Lk} (hl : l ∈ ls) (W : Nat) : mayT p (linkC p l) W = satL l W := by
  have hk := link_kind h hl
  unfold linkC kindV satL
  rw [if_pos hk, kind_may hk]
  cases l.2.2 <;> cases W.testBit l.1.toNat <;> cases W.testBit l.2.1.toNat <;> rfl
theorem linkS_ok {p : Int} {ls : List Lk} (h : linksOk p ls = true) : storyOk p (linkS p ls) = true := by
  obtain ⟨_, h2, h3, h4⟩ := linksOk_iff.1 h
  rw [linkS_yes h]
  refine storyOk_iff.2 ⟨fun c hc => ?_, by simp [pOk]; omega, by simpa using h4⟩
  obtain ⟨l, hl, rfl⟩ := List.mem_map.1 hc
  have hk := link_kind h hl
  unfold linkC kindV
  rw [if_pos hk]
  exact hk
theorem linkS_T {p : Int} {ls : List Lk} (h : linksOk p ls = true) (W : Nat) : storyT p (linkS p ls) W = ls.all fun l => satL l W := by
  rw [linkS_yes h, Bool.eq_iff_iff]
  unfold storyT
  rw [List.all_map, List.all_eq_true, List.all_eq_true]
  constructor
  · intro hh l hl
    have := hh l hl
    rw [Function.comp_apply, link_may h hl] at this
    exact this
  · intro hh l hl
    rw [Function.comp_apply, link_may h hl]
    exact hh l hl
/-! ### groups -/
def canon (r : List Nat) : Prop := ∀ k, k < r.length → r.getD k 0 ≤ k ∧ r.getD (r.getD k 0) 0 = r.getD k 0
/-- alike on each group -/
def cst (r : List Nat) (v : Nat → Bool) : Prop := ∀ k, k < r.length → v k = v (r.getD k 0)
theorem map_at (r : List Nat) (f : Nat → Nat) {k : Nat} (hk : k < r.length) : (r.map f).getD k 0 = f (r.getD k 0) := by simp [List.getD, hk]
theorem mergeR_len (r : List Nat) (i j : Nat) : (mergeR r i j).length = r.length := by simp [mergeR]
theorem mergeR_get (r : List Nat) (i j : Nat) {k : Nat} (hk : k < r.length) : (mergeR r i j).getD k 0 = if r.getD k 0 = max (r.getD i 0) (r.getD j 0) then min (r.getD i 0) (r.getD j 0) else r.getD k 0 := by
  unfold mergeR
  exact map_at r _ hk
theorem mm_cases (a b : Nat) : (max a b = a ∧ min a b = b) ∨ (max a b = b ∧ min a b = a) := by omega
theorem canon_merge {r : List Nat} (hr : canon r) {i j : Nat} (hi : i < r.length) (hj : j < r.length) : canon (mergeR r i j) := by
  intro k hk
  rw [mergeR_len] at hk
  obtain ⟨h1, h2⟩ := hr k hk
  obtain ⟨i1, i2⟩ := hr i hi
  obtain ⟨j1, j2⟩ := hr j hj
  rw [mergeR_get r i j hk]
  by_cases e : r.getD k 0 = max (r.getD i 0) (r.getD j 0)
  · rw [if_pos e]
    refine ⟨by omega, ?_⟩
    have hm : r.getD (min (r.getD i 0) (r.getD j 0)) 0 = min (r.getD i 0) (r.getD j 0) := by
      rcases mm_cases (r.getD i 0) (r.getD j 0) with ⟨_, h⟩ | ⟨_, h⟩ <;> rw [h] <;> assumption
    rw [mergeR_get r i j (by omega), hm]
    split <;> rfl
  · rw [if_neg e]
    refine ⟨h1, ?_⟩
    rw [mergeR_get r i j (by omega), h2, if_neg e]
theorem cst_merge {r : List Nat} (hr : canon r) {i j : Nat} (hi : i < r.length) (hj : j < r.length) (v : Nat → Bool) : cst (mergeR r i j) v ↔ cst r v ∧ v i = v j := by
  obtain ⟨i1, i2⟩ := hr i hi
  obtain ⟨j1, j2⟩ := hr j hj
  have hM : max (r.getD i 0) (r.getD j 0) < r.length := by omega
  have hrM : r.getD (max (r.getD i 0) (r.getD j 0)) 0 = max (r.getD i 0) (r.getD j 0) := by
    rcases mm_cases (r.getD i 0) (r.getD j 0) with ⟨h, _⟩ | ⟨h, _⟩ <;> rw [h] <;> assumption
  constructor
  · intro h
    have hv : ∀ k, k < r.length → v k = v (if r.getD k 0 = max (r.getD i 0) (r.getD j 0) then min (r.getD i 0) (r.getD j 0) else r.getD k 0) := fun k hk => by
      have := h k (by rw [mergeR_len]; exact hk)
      rwa [mergeR_get r i j hk] at this
    have hmm : v (max (r.getD i 0) (r.getD j 0)) = v (min (r.getD i 0) (r.getD j 0)) := by
      have := hv _ hM
      rwa [hrM, if_pos rfl] at this
    have hc : cst r v := fun k hk => by
      have := hv k hk
      by_cases e : r.getD k 0 = max (r.getD i 0) (r.getD j 0)
      · rw [if_pos e] at this
        rw [this, e, hmm]
      · rwa [if_neg e] at this
    refine ⟨hc, ?_⟩
    rw [hc i hi, hc j hj]
    rcases mm_cases (r.getD i 0) (r.getD j 0) with ⟨h1, h2⟩ | ⟨h1, h2⟩
    · rw [h1, h2] at hmm; exact hmm
    · rw [h1, h2] at hmm; exact hmm.symm
  · rintro ⟨hc, hij⟩ k hk
    rw [mergeR_len] at hk
    rw [mergeR_get r i j hk, hc k hk]
    by_cases e : r.getD k 0 = max (r.getD i 0) (r.getD j 0)
    · rw [if_pos e, e]
      have e1 := hc i hi
      have e2 := hc j hj
      rcases mm_cases (r.getD i 0) (r.getD j 0) with ⟨h1, h2⟩ | ⟨h1, h2⟩
      · rw [h1, h2, ← e1, ← e2]; exact hij
      · rw [h1, h2, ← e1, ← e2]; exact hij.symm
    · rw [if_neg e]
def inL (P : Nat) (ls : List Lk) : Prop := ∀ l ∈ ls, l.1.toNat < P ∧ l.2.1.toNat < P
theorem fold_inv {P : Nat} : ∀ (ls : List Lk) (r : List Nat), r.length = P → canon r → inL P ls →
    (ls.foldl (fun r l => mergeR r l.1.toNat l.2.1.toNat) r).length = P ∧ canon (ls.foldl (fun r l => mergeR r l.1.toNat l.2.1.toNat) r) ∧
    ∀ v, cst (ls.foldl (fun r l => mergeR r l.1.toNat l.2.1.toNat) r) v ↔ cst r v ∧ ∀ l ∈ ls, v l.1.toNat = v l.2.1.toNat
  | [], r, hl, hc, _ => ⟨hl, hc, fun v => by simp⟩
  | l :: ls, r, hl, hc, hin => by
    obtain ⟨h1, h2⟩ := hin l (by simp)
    obtain ⟨a, b, c⟩ := fold_inv ls (mergeR r l.1.toNat l.2.1.toNat) (by rw [mergeR_len, hl]) (canon_merge hc (by omega) (by omega)) (fun m hm => hin m (by simp [hm]))
    refine ⟨a, b, fun v => ?_⟩
    rw [List.foldl_cons, c v, cst_merge hc (by omega) (by omega)]
    simp [and_assoc]
theorem range_canon (P : Nat) : canon (List.range P) := fun k hk => by
  rw [List.length_range] at hk
  have e : (List.range P).getD k 0 = k := by simp [List.getD, hk]
  rw [e, e]
  exact ⟨Nat.le_refl _, rfl⟩
theorem range_cst (P : Nat) (v : Nat → Bool) : cst (List.range P) v := fun k hk => by
  rw [List.length_range] at hk
  have e : (List.range P).getD k 0 = k := by simp [List.getD, hk]
  rw [e]
theorem grp_inv {P : Nat} {ls : List Lk} (h : inL P ls) : (grpF P ls).length = P ∧ canon (grpF P ls) ∧ ∀ v, cst (grpF P ls) v ↔ ∀ l ∈ ls, v l.1.toNat = v l.2.1.toNat := by
  obtain ⟨a, b, c⟩ := fold_inv ls (List.range P) (by simp) (range_canon P) h
  refine ⟨a, b, fun v => ?_⟩
  unfold grpF
  rw [c v]
  exact ⟨fun h => h.2, fun h => ⟨range_cst P v, h⟩⟩
/-- such a row is told by what is alike on it -/
theorem canon_eq {r s : List Nat} (hl : r.length = s.length) (hr : canon r) (hs : canon s) (h : ∀ v, cst r v ↔ cst s v) : r = s := by
  have key : ∀ (a b : List Nat), a.length = b.length → canon a → (∀ v, cst a v → cst b v) → canon b → ∀ k, k < a.length → a.getD k 0 ≤ b.getD k 0 := by
    intro a b hab ha hv hb k hk
    have hc : cst a (fun x => decide (a.getD x 0 = a.getD k 0)) := fun x hx => by
      show decide (a.getD x 0 = a.getD k 0) = decide (a.getD (a.getD x 0) 0 = a.getD k 0)
      rw [(ha x hx).2]
    have hk2 := hv _ hc k (by omega)
    have h3 : a.getD (b.getD k 0) 0 = a.getD k 0 := by
      have : decide (a.getD k 0 = a.getD k 0) = decide (a.getD (b.getD k 0) 0 = a.getD k 0) := hk2
      rw [decide_eq_true rfl] at this
      exact of_decide_eq_true this.symm
    have hb1 := (hb k (by omega)).1
    have := (ha (b.getD k 0) (by omega)).1
    omega
  refine List.ext_getElem hl fun k h1 h2 => ?_
  have a1 := key r s hl hr (fun v => (h v).1) hs k h1
  have a2 := key s r hl.symm hs (fun v => (h v).2) hr k h2
  have e1 : r.getD k 0 = r[k] := by simp [List.getD, h1]
  have e2 : s.getD k 0 = s[k] := by simp [List.getD, h2]
  omega
theorem inL_of {p : Int} {ls : List Lk} (h : linksOk p ls = true) : inL p.toNat ls := fun l hl => by
  obtain ⟨h1, _⟩ := linksOk_iff.1 h
  have := h1 l hl
  omega
/-- in whatever order the links are taken, the groups are the same -/
theorem grp_back {P : Nat} {ls : List Lk} (h : inL P ls) : grpF P ls.reverse = grpF P ls := by
  have h' : inL P ls.reverse := fun l hl => h l (by simpa using hl)
  obtain ⟨a1, b1, c1⟩ := grp_inv h
  obtain ⟨a2, b2, c2⟩ := grp_inv h'
  refine canon_eq (by rw [a1, a2]) b2 b1 fun v => ?_
  rw [c1, c2]
  simp
/-! ### how many worlds -/
def groupsN (r : List Nat) : Nat := (List.range r.length).countP fun k => decide (r.getD k 0 = k)
def canonB (r : List Nat) : Bool := (List.range r.length).all fun k => decide (r.getD k 0 ≤ k ∧ r.getD (r.getD k 0) 0 = r.getD k 0)
def cstB (r : List Nat) (V : Nat) : Bool := (List.range r.length).all fun k => V.testBit k == V.testBit (r.getD k 0)
theorem canonB_of {r : List Nat} (h : canon r) : canonB r = true := by
  unfold canonB
  rw [List.all_eq_true]
  intro k hk
  exact decide_eq_true (h k (List.mem_range.1 hk))
theorem cstB_iff {r : List Nat} {V : Nat} : cstB r V = true ↔ cst r fun k => V.testBit k := by
  unfold cstB cst
  rw [List.all_eq_true]
  simp
/-- what is asked of all rows of at most four people that tell groups is to be tried in these alone -/
theorem rows_all4 {Q : List Nat → Prop} (h1 : Q [0]) (h2 : ∀ b, b < 2 → Q [0, b]) (h3 : ∀ b, b < 2 → ∀ c, c < 3 → Q [0, b, c]) (h4 : ∀ b, b < 2 → ∀ c, c < 3 → ∀ d, d < 4 → Q [0, b, c, d]) {r : List Nat} (hr : canon r) (hl1 : 1 ≤ r.length) (hl4 : r.length ≤ 4) : Q r := by
  match r, hr, hl1, hl4 with
  | [a], hr, _, _ =>
    have := (hr 0 (by simp)).1
    simp at this; subst this; exact h1
  | [a, b], hr, _, _ =>
    have e0 := (hr 0 (by simp)).1
    have e1 := (hr 1 (by simp)).1
    simp at e0 e1; subst e0
    exact h2 b (by omega)
  | [a, b, c], hr, _, _ =>
    have e0 := (hr 0 (by simp)).1
    have e1 := (hr 1 (by simp)).1
    have e2 := (hr 2 (by simp)).1
    simp at e0 e1 e2; subst e0
    exact h3 b (by omega) c (by omega)
  | [a, b, c, d], hr, _, _ =>
    have e0 := (hr 0 (by simp)).1
    have e1 := (hr 1 (by simp)).1
    have e2 := (hr 2 (by simp)).1
    have e3 := (hr 3 (by simp)).1
    simp at e0 e1 e2 e3; subst e0
    exact h4 b (by omega) c (by omega) d (by omega)
  | a :: b :: c :: d :: e :: f, _, _, h => simp at h
theorem count_cst {r : List Nat} (hr : canon r) (h1 : 1 ≤ r.length) (h4 : r.length ≤ 4) : ((List.range (2 ^ r.length)).countP fun V => cstB r V) = 2 ^ groupsN r := by
  refine rows_all4 (Q := fun r => canonB r = true → ((List.range (2 ^ r.length)).countP fun V => cstB r V) = 2 ^ groupsN r) ?_ ?_ ?_ ?_ hr h1 h4 (canonB_of hr)
  · decide +kernel
  · decide +kernel
  · decide +kernel
  · decide +kernel
/-- two groups are made one -/
theorem groups_merge {r : List Nat} (hr : canon r) (h1 : 1 ≤ r.length) (h4 : r.length ≤ 4) (hne : r.getD 0 0 ≠ r.getD (r.length - 1) 0) : groupsN (mergeR r 0 (r.length - 1)) + 1 = groupsN r := by
  refine rows_all4 (Q := fun r => canonB r = true → r.getD 0 0 ≠ r.getD (r.length - 1) 0 → groupsN (mergeR r 0 (r.length - 1)) + 1 = groupsN r) ?_ ?_ ?_ ?_ hr h1 h4 (canonB_of hr) hne
  · decide +kernel
  · decide +kernel
  · decide +kernel
  · decide +kernel
theorem groups_pos {r : List Nat} (hr : canon r) (h1 : 1 ≤ r.length) : 1 ≤ groupsN r := by
  unfold groupsN
  have := (hr 0 (by omega)).1
  exact List.countP_pos_iff.2 ⟨0, List.mem_range.2 (by omega), decide_eq_true (by omega)⟩
theorem xor_perm {P W0 : Nat} (h1 : 1 ≤ P) (h4 : P ≤ 4) (hW : W0 < 2 ^ P) : ((List.range (2 ^ P)).map (· ^^^ W0)).Perm (List.range (2 ^ P)) := by
  have h : P = 1 ∨ P = 2 ∨ P = 3 ∨ P = 4 := by omega
  have k1 : ∀ W0 < 2 ^ 1, ((List.range (2 ^ 1)).map (· ^^^ W0)).Perm (List.range (2 ^ 1)) := by decide +kernel
  have k2 : ∀ W0 < 2 ^ 2, ((List.range (2 ^ 2)).map (· ^^^ W0)).Perm (List.range (2 ^ 2)) := by decide +kernel
  have k3 : ∀ W0 < 2 ^ 3, ((List.range (2 ^ 3)).map (· ^^^ W0)).Perm (List.range (2 ^ 3)) := by decide +kernel
  have k4 : ∀ W0 < 2 ^ 4, ((List.range (2 ^ 4)).map (· ^^^ W0)).Perm (List.range (2 ^ 4)) := by decide +kernel
  rcases h with rfl | rfl | rfl | rfl
  · exact k1 _ hW
  · exact k2 _ hW
  · exact k3 _ hW
  · exact k4 _ hW
def satN (P : Nat) (ls : List Lk) : Nat := (List.range (2 ^ P)).countP fun W => ls.all fun l => satL l W
theorem sat_xor {ls : List Lk} {W0 : Nat} (h0 : (ls.all fun l => satL l W0) = true) (W : Nat) : (ls.all fun l => satL l W) = true ↔ ∀ l ∈ ls, (W ^^^ W0).testBit l.1.toNat = (W ^^^ W0).testBit l.2.1.toNat := by
  rw [List.all_eq_true] at h0 ⊢
  constructor
  all_goals
    intro h l hl
    have a := h l hl
    have b := h0 l hl
    unfold satL at *
    simp only [Nat.testBit_xor] at *
    revert a b
    cases l.2.2 <;> cases W.testBit l.1.toNat <;> cases W.testBit l.2.1.toNat <;> cases W0.testBit l.1.toNat <;> cases W0.testBit l.2.1.toNat <;> decide
/-- none, or two for each group -/
theorem sat_count {P : Nat} {ls : List Lk} (h1 : 1 ≤ P) (h4 : P ≤ 4) (hin : inL P ls) : satN P ls = 0 ∨ satN P ls = 2 ^ groupsN (grpF P ls) := by
  by_cases he : ∃ W0, W0 < 2 ^ P ∧ (ls.all fun l => satL l W0) = true
  · right
    obtain ⟨W0, hW, h0⟩ := he
    obtain ⟨a, b, c⟩ := grp_inv hin
    rw [← count_cst b (by omega) (by omega), a]
    unfold satN
    rw [← (xor_perm h1 h4 hW).countP_eq, List.countP_map]
    refine List.countP_congr fun W _ => ?_
    have hx : (W ^^^ W0) ^^^ W0 = W := by rw [Nat.xor_assoc, Nat.xor_self, Nat.xor_zero]
    show (ls.all fun l => satL l (W ^^^ W0)) = true ↔ _
    rw [sat_xor h0 (W ^^^ W0), cstB_iff, c, hx]
  · left
    unfold satN
    rw [List.countP_eq_zero]
    intro W hW hs
    exact he ⟨W, List.mem_range.1 hW, hs⟩
theorem sat_pos {P : Nat} {ls : List Lk} : satN P ls ≠ 0 ↔ ∃ W0, W0 < 2 ^ P ∧ (ls.all fun l => satL l W0) = true := by
  unfold satN
  rw [Ne, List.countP_eq_zero]
  constructor
  · intro h
    refine Classical.byContradiction fun hn => h fun W hW hs => hn ⟨W, List.mem_range.1 hW, hs⟩
  · rintro ⟨W, hW, hs⟩ h
    exact h W (List.mem_range.2 hW) hs
theorem grp_snoc (P : Nat) (ls : List Lk) (l : Lk) : grpF P (ls ++ [l]) = mergeR (grpF P ls) l.1.toNat l.2.1.toNat := by
  unfold grpF
  rw [List.foldl_append]; rfl
/-- a link more between the first person and the last one -/
theorem sat_more {P : Nat} {ls : List Lk} (h1 : 1 ≤ P) (h4 : P ≤ 4) (hin : inL P ls) :
    ((grpF P ls).getD 0 0 = (grpF P ls).getD (P - 1) 0 → satN P (ls ++ [(0, (P : Int) - 1, true)]) = satN P ls ∨ satN P (ls ++ [(0, (P : Int) - 1, true)]) = 0) ∧
    ((grpF P ls).getD 0 0 ≠ (grpF P ls).getD (P - 1) 0 → 2 * satN P (ls ++ [(0, (P : Int) - 1, true)]) = satN P ls) := by
  obtain ⟨a, b, c⟩ := grp_inv hin
  have hP1 : ((P : Int) - 1).toNat = P - 1 := by omega
  have hall : ∀ W, ((ls ++ [(0, (P : Int) - 1, true)]).all fun l => satL l W) = ((ls.all fun l => satL l W) && (W.testBit 0 == W.testBit (P - 1))) := fun W => by
    rw [List.all_append]
    unfold satL
    simp [hP1]
  have hin' : inL P (ls ++ [(0, (P : Int) - 1, true)]) := fun l hl => by
    rcases List.mem_append.1 hl with h | h
    · exact hin l h
    · rw [List.mem_singleton] at h; subst h
      exact ⟨by show (0 : Int).toNat < P; omega, by show ((P : Int) - 1).toNat < P; omega⟩
  by_cases he : ∃ W0, W0 < 2 ^ P ∧ (ls.all fun l => satL l W0) = true
  · obtain ⟨W0, hW, h0⟩ := he
    constructor
    · intro hsame
      have hv : ∀ W, (ls.all fun l => satL l W) = true → (W.testBit 0 == W.testBit (P - 1)) = (W0.testBit 0 == W0.testBit (P - 1)) := fun W hs => by
        have hc := (c fun k => (W ^^^ W0).testBit k).2 ((sat_xor h0 W).1 hs)
        have e0 := hc 0 (by omega)
        have e1 := hc (P - 1) (by omega)
        rw [hsame, ← e1] at e0
        simp only [Nat.testBit_xor] at e0
        revert e0
        cases W.testBit 0 <;> cases W.testBit (P - 1) <;> cases W0.testBit 0 <;> cases W0.testBit (P - 1) <;> decide
      cases hb : (W0.testBit 0 == W0.testBit (P - 1)) with
      | true =>
        left
        unfold satN
        refine List.countP_congr fun W _ => ?_
        rw [hall W]
        constructor
        · intro h; rw [Bool.and_eq_true] at h; exact h.1
        · intro h; rw [h, hv W h, hb]; rfl
      | false =>
        right
        unfold satN
        rw [List.countP_eq_zero]
        intro W _ h
        rw [hall W, Bool.and_eq_true] at h
        rw [hv W h.1, hb] at h
        cases h.2
    · intro hne
      obtain ⟨W1, hW1, h1', hb1⟩ : ∃ W1, W1 < 2 ^ P ∧ (ls.all fun l => satL l W1) = true ∧ (W1.testBit 0 == W1.testBit (P - 1)) = true := by
        cases hb : (W0.testBit 0 == W0.testBit (P - 1)) with
        | true => exact ⟨W0, hW, h0, hb⟩
        | false =>
          have hV : tabF P (fun k => decide ((grpF P ls).getD k 0 = (grpF P ls).getD (P - 1) 0)) < 2 ^ P := tabF_lt _ _
          have hbit : ∀ k, k < P → (tabF P (fun k => decide ((grpF P ls).getD k 0 = (grpF P ls).getD (P - 1) 0))).testBit k = decide ((grpF P ls).getD k 0 = (grpF P ls).getD (P - 1) 0) := fun k hk => by
            rw [tabF_bit, decide_eq_true hk, Bool.true_and]
          generalize tabF P (fun k => decide ((grpF P ls).getD k 0 = (grpF P ls).getD (P - 1) 0)) = V at *
          have hx : (V ^^^ W0) ^^^ W0 = V := by rw [Nat.xor_assoc, Nat.xor_self, Nat.xor_zero]
          refine ⟨V ^^^ W0, Nat.xor_lt_two_pow hV hW, (sat_xor h0 _).2 ((c fun k => ((V ^^^ W0) ^^^ W0).testBit k).1 ?_), ?_⟩
          · intro k hk
            show ((V ^^^ W0) ^^^ W0).testBit k = ((V ^^^ W0) ^^^ W0).testBit ((grpF P ls).getD k 0)
            have hk2 := b k hk
            rw [hx, hbit k (by omega), hbit _ (by omega), hk2.2]
          · rw [Nat.testBit_xor, Nat.testBit_xor, hbit 0 (by omega), hbit (P - 1) (by omega), decide_eq_true rfl, decide_eq_false hne]
            revert hb
            cases W0.testBit 0 <;> cases W0.testBit (P - 1) <;> decide
      have hm : satN P (ls ++ [(0, (P : Int) - 1, true)]) ≠ 0 := sat_pos.2 ⟨W1, hW1, by rw [hall, h1', hb1]; rfl⟩
      have hn : satN P ls ≠ 0 := sat_pos.2 ⟨W0, hW, h0⟩
      rcases sat_count h1 h4 hin with hc | hc
      · exact absurd hc hn
      rcases sat_count h1 h4 hin' with hc' | hc'
      · exact absurd hc' hm
      rw [hc, hc', grp_snoc]
      have hg := groups_merge b (by omega) (by omega) (by rw [a]; exact hne)
      rw [a] at hg
      rw [show ((0, (P : Int) - 1, true) : Lk).2.1.toNat = P - 1 from hP1, show ((0, (P : Int) - 1, true) : Lk).1.toNat = 0 from rfl, ← hg, Nat.pow_succ, Nat.mul_comm]
  · have hz : satN P ls = 0 := Classical.byContradiction fun h => he (sat_pos.1 h)
    have hz' : satN P (ls ++ [(0, (P : Int) - 1, true)]) = 0 := Classical.byContradiction fun h => by
      obtain ⟨W, hW, hs⟩ := sat_pos.1 h
      rw [hall, Bool.and_eq_true] at hs
      exact he ⟨W, hW, hs.1⟩
    exact ⟨fun _ => .inl (by rw [hz, hz']), fun _ => by rw [hz, hz']⟩
/-! ### the story of links -/
theorem wl_count {N : Nat} (f : Nat → Bool) : (wl (tabF N f) N).length = (List.range N).countP f := by
  unfold wl
  rw [List.countP_eq_length_filter]
  congr 1
  refine List.filter_congr fun W hW => ?_
  rw [tabF_bit, decide_eq_true (List.mem_range.1 hW), Bool.true_and]
theorem link_worlds {p : Int} {ls : List Lk} (h : linksOk p ls = true) : (swl p (linkS p ls)).length = satN p.toNat ls := by
  rw [swl_yes (linkS_ok h)]
  unfold storyN
  rw [wl_count]
  unfold satN
  refine List.countP_congr fun W _ => ?_
  rw [linkS_T h]
theorem link_heads {p : Int} {ls : List Lk} (h : linksOk p ls = true) : heads (storyN p (linkS p ls)) = satN p.toNat ls := by
  rw [← link_worlds h, swl_yes (linkS_ok h)]
  obtain ⟨_, h2, h3, _⟩ := linksOk_iff.1 h
  have h16 : 2 ^ p.toNat ≤ 16 := Nat.le_trans (Nat.pow_le_pow_right (by decide) (show p.toNat ≤ 4 by omega)) (by decide)
  exact (wl_heads9 _ _ (by omega) (tabF_lt _ _)).symm
theorem link_only {p : Int} {ls : List Lk} (h : linksOk p ls = true) : onlyOk p (linkS p ls) = false := by
  unfold onlyOk
  rw [link_worlds h, decide_eq_false_iff_not]
  obtain ⟨_, h2, h3, _⟩ := linksOk_iff.1 h
  have hin := inL_of h
  obtain ⟨a, b, _⟩ := grp_inv hin
  have hg := groups_pos b (by omega)
  intro h1
  rcases sat_count (by omega) (by omega) hin with hc | hc
  · omega
  · have : 2 ^ 1 ≤ 2 ^ groupsN (grpF p.toNat ls) := Nat.pow_le_pow_right (by decide) hg
    omega
end Go.Proofs.Ythiabicleedleaa
/- Links in memory: rows of two numbers and a truth value each. -/
namespace Go.Proofs.Ythiabicleedleaa
open Go.RowKit
def L64 (sp : List Lk) : Prop := ∀ s ∈ sp, I64 s.1 ∧ I64 s.2.1
def lcells : List Lk → List Value
  | [] => []
  | s :: r => .int .i64 s.1 :: .int .i64 s.2.1 :: .bool s.2.2 :: lcells r
theorem lcells_length (sp : List Lk) : (lcells sp).length = sp.length * 3 := by
  induction sp with
  | nil => rfl
  | cons m r ih => simp [lcells, ih]; omega
theorem lcells_append (xs ys : List Lk) : lcells (xs ++ ys) = lcells xs ++ lcells ys := by
  induction xs with
  | nil => rfl
  | cons m r ih => simp [lcells, ih]
theorem lcells_get (sp : List Lk) : ∀ j, j < sp.length → (lcells sp)[j * 3]? = some (.int .i64 (sp.getD j lk0).1) ∧ (lcells sp)[j * 3 + 1]? = some (.int .i64 (sp.getD j lk0).2.1) ∧ (lcells sp)[j * 3 + 2]? = some (.bool (sp.getD j lk0).2.2) := by
  induction sp with
  | nil => intro j hj; simp at hj
  | cons m r ih =>
    intro j hj
    cases j with
    | zero => simp [lcells]
    | succ j =>
      have := ih j (by simpa using hj)
      have e1 : (j + 1) * 3 = j * 3 + 1 + 1 + 1 := by omega
      rw [e1, show j * 3 + 1 + 1 + 1 + 1 = (j * 3 + 1) + 1 + 1 + 1 by omega, show j * 3 + 1 + 1 + 1 + 2 = (j * 3 + 2) + 1 + 1 + 1 by omega]
      simpa [lcells] using this
theorem lcells_one (sp : List Lk) : ∀ u ∈ lcells sp, u.oneCell' = true := by
  induction sp with
  | nil => intro u hu; simp [lcells] at hu
  | cons m r ih =>
    intro u hu
    simp only [lcells, List.mem_cons] at hu
    rcases hu with rfl | rfl | rfl | hu
    · rfl
    · rfl
    · rfl
    · exact ih u hu
theorem lcells_set (A R : List Lk) (m m' : Lk) (k : Nat) (hk : A.length = k) :
    (((lcells (A ++ m :: R)).set (k * 3) (.int .i64 m'.1)).set (k * 3 + 1) (.int .i64 m'.2.1)).set (k * 3 + 2) (.bool m'.2.2) = lcells (A ++ m' :: R) := by
  have hl : (lcells A).length = k * 3 := by rw [lcells_length, hk]
  rw [lcells_append, lcells_append]
  simp only [lcells]
  rw [← hl, List.set_append_right _ _ (by omega), List.set_append_right _ _ (by omega), List.set_append_right _ _ (by omega)]
  simp [show (lcells A).length + 1 - (lcells A).length = 1 by omega, show (lcells A).length + 2 - (lcells A).length = 2 by omega]
/-- a value tells these links, in blocks below B -/
def RdLinks (w : World) (B : Nat) (v : Value) (sp : List Lk) : Prop :=
  ∃ ao cap, v = .slice ao sp.length cap ∧ sp.length ≤ cap ∧ cap ≤ maxLen ∧ L64 sp ∧
    ∀ j, j < sp.length → ∃ b off, ao = some ⟨b, off, none⟩ ∧ b < B ∧ w.cell? ⟨b, off + j * 3, none⟩ = some (.int .i64 (sp.getD j lk0).1) ∧ w.cell? ⟨b, off + j * 3 + 1, none⟩ = some (.int .i64 (sp.getD j lk0).2.1) ∧ w.cell? ⟨b, off + j * 3 + 2, none⟩ = some (.bool (sp.getD j lk0).2.2)
theorem RdLinks.below {w w' : World} {B : Nat} {v : Value} {sp : List Lk} (h : RdLinks w B v sp) (hb : ∀ k, k < B → w'.heap[k]? = w.heap[k]?) : RdLinks w' B v sp := by
  obtain ⟨ao, cap, hv, hl, hm, hi, hc⟩ := h
  refine ⟨ao, cap, hv, hl, hm, hi, fun j hj => ?_⟩
  obtain ⟨b, off, ha, hB, hc1, hc2, hc3⟩ := hc j hj
  exact ⟨b, off, ha, hB, by rw [← hc1]; exact World.cell?_of_block (w := w) (hb b hB), by rw [← hc2]; exact World.cell?_of_block (w := w) (hb b hB), by rw [← hc3]; exact World.cell?_of_block (w := w) (hb b hB)⟩
theorem RdLinks.mono {w : World} {B B' : Nat} {v : Value} {sp : List Lk} (h : RdLinks w B v sp) (hB : B ≤ B') : RdLinks w B' v sp := by
  obtain ⟨ao, cap, hv, hl, hm, hi, hc⟩ := h
  refine ⟨ao, cap, hv, hl, hm, hi, fun j hj => ?_⟩
  obtain ⟨b, off, ha, hb, hc1⟩ := hc j hj
  exact ⟨b, off, ha, by omega, hc1⟩
theorem RdLinks.of_own {w : World} {base : Nat} {e : TypeId} {v : Value} {sp : List Lk} (h : w.ownsRow base e 3 v sp.length (lcells sp)) (hi : L64 sp) : RdLinks w w.heap.size v sp := by
  rcases h.2 with ⟨rfl, hn⟩ | ⟨g, cap, cur, rfl, hb, hg, hnc, hcm, hcs, htake⟩
  · have : sp = [] := List.eq_nil_of_length_eq_zero hn
    subst this
    exact ⟨none, 0, rfl, Nat.le_refl _, by unfold maxLen; omega, hi, fun j hj => by simp at hj⟩
  · have key : ∀ (i : Nat) (u : Value), (lcells sp)[i]? = some u → w.cell? ⟨g, 0 + i, none⟩ = some u := by
      intro i u h1
      rw [cell_of_row w g (0 + i) cur e (0, 0) hg]
      rw [← htake, List.getElem?_take] at h1
      split at h1
      · simpa using h1
      · cases h1
    refine ⟨_, cap, rfl, hnc, hcm, hi, fun j hj => ⟨g, 0, rfl, (Array.getElem?_eq_some_iff.1 hg).1, ?_, ?_, ?_⟩⟩
    · exact key _ _ (lcells_get sp j hj).1
    · exact key _ _ (lcells_get sp j hj).2.1
    · exact key _ _ (lcells_get sp j hj).2.2
theorem RdLinks.l64 {w : World} {B : Nat} {v : Value} {sp : List Lk} (h : RdLinks w B v sp) : L64 sp := by obtain ⟨_, _, _, _, _, hi, _⟩ := h; exact hi
theorem RdLinks.nil (w : World) (B : Nat) : RdLinks w B (.slice none 0 0) [] := ⟨none, 0, rfl, Nat.le_refl _, (by unfold maxLen; omega), (fun s hs => by cases hs), fun j hj => by simp at hj⟩
end Go.Proofs.Ythiabicleedleaa
/- Claims and stories in memory. -/
namespace Go.Proofs.Ythiabicleedleaa
open Go.RowKit Go.Joins
abbrev TC : TypeId := 35
/-- a claim, and the slice that its marks are -/
abbrev QC := Value × Cl
def qc0 : QC := (.slice none 0 0, (0, []))
/-- the cells of some claims -/
def ccells : List QC → List Value
  | [] => []
  | q :: r => .int .i64 q.2.1 :: q.1 :: ccells r
theorem ccells_length (qs : List QC) : (ccells qs).length = qs.length * 2 := by
  induction qs with
  | nil => rfl
  | cons m r ih => simp [ccells, ih]; omega
theorem ccells_append (xs ys : List QC) : ccells (xs ++ ys) = ccells xs ++ ccells ys := by
  induction xs with
  | nil => rfl
  | cons m r ih => simp [ccells, ih]
theorem ccells_get (qs : List QC) : ∀ j, j < qs.length → (ccells qs)[j * 2]? = some (.int .i64 (qs.getD j qc0).2.1) ∧ (ccells qs)[j * 2 + 1]? = some (qs.getD j qc0).1 := by
  induction qs with
  | nil => intro j hj; simp at hj
  | cons m r ih =>
    intro j hj
    cases j with
    | zero => simp [ccells]
    | succ j =>
      have := ih j (by simpa using hj)
      have e1 : (j + 1) * 2 = j * 2 + 1 + 1 := by omega
      have e2 : (j + 1) * 2 + 1 = j * 2 + 1 + 1 + 1 := by omega
      rw [e1]
      simpa [ccells] using this
theorem ccells_one {qs : List QC} (h : ∀ q ∈ qs, q.1.oneCell' = true) : ∀ u ∈ ccells qs, u.oneCell' = true := by
  induction qs with
  | nil => intro u hu; simp [ccells] at hu
  | cons m r ih =>
    intro u hu
    simp only [ccells, List.mem_cons] at hu
    rcases hu with rfl | rfl | hu
    · rfl
    · exact h m (by simp)
    · exact ih (fun q hq => h q (by simp [hq])) u hu
/-- v is a slice of claims that reads as qs; it and what they say lie below block B -/
def RdStory (w : World) (B : Nat) (v : Value) (qs : List QC) : Prop :=
  ∃ ao cap, v = .slice ao qs.length cap ∧ qs.length ≤ cap ∧ cap ≤ maxLen ∧ (∀ q ∈ qs, RdMarks w B q.1 q.2.2 ∧ I64 q.2.1) ∧
    ∀ j, j < qs.length → ∃ b off, ao = some ⟨b, off, none⟩ ∧ b < B ∧ w.cell? ⟨b, off + j * 2, none⟩ = some (.int .i64 (qs.getD j qc0).2.1) ∧ w.cell? ⟨b, off + j * 2 + 1, none⟩ = some (qs.getD j qc0).1
theorem RdStory.below {w w' : World} {B : Nat} {v : Value} {qs : List QC} (h : RdStory w B v qs) (hb : ∀ k, k < B → w'.heap[k]? = w.heap[k]?) : RdStory w' B v qs := by
  obtain ⟨ao, cap, hv, hl, hm, hi, hc⟩ := h
  refine ⟨ao, cap, hv, hl, hm, fun q hq => ⟨(hi q hq).1.below hb, (hi q hq).2⟩, fun j hj => ?_⟩
  obtain ⟨b, off, ha, hB, hc1, hc2⟩ := hc j hj
  exact ⟨b, off, ha, hB, by rw [← hc1]; exact World.cell?_of_block (w := w) (hb b hB), by rw [← hc2]; exact World.cell?_of_block (w := w) (hb b hB)⟩
theorem RdStory.mono {w : World} {B B' : Nat} {v : Value} {qs : List QC} (h : RdStory w B v qs) (hB : B ≤ B') : RdStory w B' v qs := by
  obtain ⟨ao, cap, hv, hl, hm, hi, hc⟩ := h
  refine ⟨ao, cap, hv, hl, hm, fun q hq => ⟨(hi q hq).1.mono hB, (hi q hq).2⟩, fun j hj => ?_⟩
  obtain ⟨b, off, ha, hb, hc1, hc2⟩ := hc j hj
  exact ⟨b, off, ha, by omega, hc1, hc2⟩
theorem RdStory.get {w : World} {B : Nat} {v : Value} {qs : List QC} (h : RdStory w B v qs) {j : Nat} (hj : j < qs.length) : RdMarks w B (qs.getD j qc0).1 (qs.getD j qc0).2.2 ∧ I64 (qs.getD j qc0).2.1 := by
  obtain ⟨_, _, _, _, _, hi, _⟩ := h
  have e : qs.getD j qc0 = qs[j] := by simp [List.getD, hj]
  rw [e]; exact hi _ (List.getElem_mem hj)
/-- a row of claims of the call's own, and what they say in rows of the call's own -/
def StoryIn (w : World) (base ib : Nat) (v : Value) (qs : List QC) : Prop :=
  w.ownsRow base TC 2 v qs.length (ccells qs) ∧ ∀ q ∈ qs, w.ownsRow ib TM 2 q.1 q.2.2.length (mcells q.2.2) ∧ I64s q.2.2 ∧ I64 q.2.1
theorem own_one {w : World} {base n size : Nat} {e : TypeId} {v : Value} {xs : List Value} (h : w.ownsRow base e size v n xs) : v.oneCell' = true := by
  rcases h.2 with ⟨rfl, _⟩ | ⟨g, cap, cur, rfl, _⟩ <;> rfl
theorem StoryIn.rd {w : World} {base ib : Nat} {v : Value} {qs : List QC} (h : StoryIn w base ib v qs) : RdStory w w.heap.size v qs := by
  obtain ⟨ho, hq⟩ := h
  have hq' : ∀ q ∈ qs, RdMarks w w.heap.size q.1 q.2.2 ∧ I64 q.2.1 := fun q hm => ⟨RdMarks.of_own (hq q hm).1 (hq q hm).2.1, (hq q hm).2.2⟩
  rcases ho.2 with ⟨rfl, hn⟩ | ⟨g, cap, cur, rfl, hb, hg, hnc, hcm, hcs, htake⟩
  · have : qs = [] := List.eq_nil_of_length_eq_zero hn
    subst this
    exact ⟨none, 0, rfl, Nat.le_refl _, by unfold maxLen; omega, hq', fun j hj => by simp at hj⟩
  · refine ⟨_, cap, rfl, hnc, hcm, hq', fun j hj => ⟨g, 0, rfl, (Array.getElem?_eq_some_iff.1 hg).1, ?_, ?_⟩⟩
    · rw [cell_of_row w g (0 + j * 2) cur TC (0, 0) hg]
      have h1 := (ccells_get qs j hj).1
      rw [← htake, List.getElem?_take] at h1
      split at h1
      · simpa using h1
      · cases h1
    · rw [cell_of_row w g (0 + j * 2 + 1) cur TC (0, 0) hg]
      have h1 := (ccells_get qs j hj).2
      rw [← htake, List.getElem?_take] at h1
      split at h1
      · simpa using h1
      · cases h1
theorem StoryIn.alloc {w : World} {base ib : Nat} {v : Value} {qs : List QC} (h : StoryIn w base ib v qs) (o : Obj) : StoryIn (w.alloc o) base ib v qs :=
  ⟨h.1.alloc o, fun q hq => ⟨(h.2 q hq).1.alloc o, (h.2 q hq).2⟩⟩
theorem StoryIn.below {w w' : World} {base ib : Nat} {v : Value} {qs : List QC} (h : StoryIn w base ib v qs) (hb : Below w.heap.size w w') : StoryIn w' base ib v qs :=
  ⟨own_below h.1 hb, fun q hq => ⟨own_below (h.2 q hq).1 hb, (h.2 q hq).2⟩⟩
theorem StoryIn.row {w w' : World} {base ib b : Nat} {v : Value} {qs : List QC} (h : StoryIn w base ib v qs) (hg : w.grownBy w' (some b)) (hb : b < base) (hb' : b < ib) : StoryIn w' base ib v qs :=
  ⟨own_row h.1 hg hb, fun q hq => ⟨own_row (h.2 q hq).1 hg hb', (h.2 q hq).2⟩⟩
theorem StoryIn.mono {w : World} {base ib base' ib' : Nat} {v : Value} {qs : List QC} (h : StoryIn w base' ib' v qs) (hb : base ≤ base') (hi : ib ≤ ib') : StoryIn w base ib v qs :=
  ⟨own_mono h.1 hb, fun q hq => ⟨own_mono (h.2 q hq).1 hi, (h.2 q hq).2⟩⟩
theorem TM_TC : TM ≠ TC := by decide
/-- behind an append of one claim -/
theorem StoryIn.push {w w' : World} {base ib : Nat} {v v' : Value} {qs : List QC} {q : QC} (h : StoryIn w base ib v qs)
    (hq : w.ownsRow ib TM 2 q.1 q.2.2.length (mcells q.2.2) ∧ I64s q.2.2 ∧ I64 q.2.1) (hown : w'.ownsRow base TC 2 v' (qs.length + 1) (ccells qs ++ ccells [q])) (hg : w.grownBy w' v.ownBlock) : StoryIn w' base ib v' (qs ++ [q]) := by
  refine ⟨by rw [ccells_append]; simpa using hown, fun r hr => ?_⟩
  rcases List.mem_append.1 hr with hr | hr
  · exact ⟨(h.2 r hr).1.kept hg (own_ne (h.2 r hr).1 h.1 TM_TC), (h.2 r hr).2⟩
  · simp at hr; subst hr
    exact ⟨hq.1.kept hg (own_ne hq.1 h.1 TM_TC), hq.2⟩
theorem StoryIn.nil (w : World) (base ib : Nat) : StoryIn w base ib (.slice none 0 0) [] := ⟨World.ownsRow_nil _ _ _ _, fun q hq => by simp at hq⟩
/-- the cells of one claim in a block just laid -/
theorem newsC (W : World) (g : Nat) (hg : g = W.heap.size) (k : Int) (u : Value) (c : List (Int × Int)) (T : TypeId) : ∀ (j : Nat) (u' : Value), (ccells [(u, (k, c))])[j]? = some u' → (W.alloc (.cells #[.int .i64 k, u] T)).cell? ((⟨g, 0, none⟩ : Addr).add j) = some u' := by
  subst hg
  exact World.news_of_block (cs := #[.int .i64 k, u]) (t := T) (fr := (0, 0)) (heap_alloc_new W _)
theorem Try.infoC : (Try.prog.info? TC).map (fun i => (i.zero, i.size, i.bytes)) = some (some (.agg #[.int .i64 0, .slice none 0 0]), 2, 32) := by kernel_rfl
/-! ### a variable of two cells -/
/-- block g holds a variable of two cells -/
def Box (w : World) (g : Nat) (a b : Value) : Prop := w.cell? ⟨g, 0, none⟩ = some a ∧ w.cell? ⟨g, 1, none⟩ = some b ∧ w.frozen? ⟨g, 0, none⟩ = false ∧ w.frozen? ⟨g, 1, none⟩ = false ∧ g < w.heap.size
theorem Box.new (w : World) (a b : Value) (T : TypeId) : ∃ w1 : World, w1 = w.alloc (.cells #[a, b] T) ∧ Box w1 w.heap.size a b ∧ Below w.heap.size w w1 ∧ w.heap.size < w1.heap.size := by
  have hh := heap_alloc_new w (.cells #[a, b] T)
  refine ⟨_, rfl, ⟨?_, ?_, frozen_of_row _ _ _ _ _ hh, frozen_of_row _ _ _ _ _ hh, by simp⟩, (Below.refl _ _).alloc (Nat.le_refl _) _, by simp⟩
  · have := cell_of_row (w.alloc (.cells #[a, b] T)) w.heap.size 0 _ T (0, 0) hh
    rw [this]; rfl
  · have := cell_of_row (w.alloc (.cells #[a, b] T)) w.heap.size 1 _ T (0, 0) hh
    rw [this]; rfl
theorem Box.kept {w w' : World} {g : Nat} {a b : Value} (h : Box w g a b) (hk : w'.heap[g]? = w.heap[g]?) (hs : g < w'.heap.size) : Box w' g a b :=
  ⟨(World.cell?_of_block (w := w) hk).trans h.1, (World.cell?_of_block (w := w) hk).trans h.2.1, (World.frozen?_of_block (w := w) hk).trans h.2.2.1, (World.frozen?_of_block (w := w) hk).trans h.2.2.2.1, hs⟩
theorem Box.below {w w' : World} {g : Nat} {a b : Value} (h : Box w g a b) (hb : Below w.heap.size w w') : Box w' g a b :=
  h.kept (hb.block g h.2.2.2.2) (by have := hb.size; have := h.2.2.2.2; omega)
theorem Box.grown {w w' : World} {g : Nat} {a b : Value} {row : Option Nat} (h : Box w g a b) (hg : w.grownBy w' row) (hne : row ≠ some g) : Box w' g a b :=
  h.kept (hg.block g h.2.2.2.2 (fun e => hne e.symm)) (by have := hg.size; have := h.2.2.2.2; omega)
theorem Box.alloc {w : World} {g : Nat} {a b : Value} (h : Box w g a b) (o : Obj) : Box (w.alloc o) g a b := h.kept (Below.heap_alloc w o g h.2.2.2.2) (by have := h.2.2.2.2; simp; omega)
theorem grown_set (w : World) (g j : Nat) (u : Value) : w.grownBy (w.setCell ⟨g, j, none⟩ u) (some g) :=
  ⟨rfl, rfl, rfl, by simp [World.setCell], fun k _ hne => Below.heap_setCell _ _ _ _ (by intro e; exact hne (by rw [e]))⟩
theorem grown_trans {a b c : World} {row : Option Nat} (h : a.grownBy b row) (k : b.grownBy c row) : a.grownBy c row :=
  ⟨k.os.trans h.os, k.tape.trans h.tape, k.output.trans h.output, Nat.le_trans h.size k.size, fun i hi hne => (k.block i (Nat.lt_of_lt_of_le hi h.size) hne).trans (h.block i hi hne)⟩
theorem Box.set0 {w : World} {g : Nat} {a b : Value} (h : Box w g a b) (a' : Value) : ∃ w', w' = w.setCell ⟨g, 0, none⟩ a' ∧ Box w' g a' b ∧ w.grownBy w' (some g) := by
  obtain ⟨h1, h2, h3, h4, h5⟩ := h
  refine ⟨_, rfl, ⟨by go_simp, by go_simp, by go_simp, by go_simp, by simpa [World.setCell] using h5⟩, grown_set _ _ _ _⟩
theorem Box.set1 {w : World} {g : Nat} {a b : Value} (h : Box w g a b) (b' : Value) : ∃ w', w' = w.setCell ⟨g, 1, none⟩ b' ∧ Box w' g a b' ∧ w.grownBy w' (some g) := by
  obtain ⟨h1, h2, h3, h4, h5⟩ := h
  refine ⟨_, rfl, ⟨by go_simp, by go_simp, by go_simp, by go_simp, by simpa [World.setCell] using h5⟩, grown_set _ _ _ _⟩
theorem Box.set {w : World} {g : Nat} {a b : Value} (h : Box w g a b) (a' b' : Value) : ∃ w', w' = (w.setCell ⟨g, 0, none⟩ a').setCell ⟨g, 1, none⟩ b' ∧ Box w' g a' b' ∧ w.grownBy w' (some g) := by
  obtain ⟨w1, e1, h1, g1⟩ := h.set0 a'
  obtain ⟨w2, e2, h2, g2⟩ := h1.set1 b'
  exact ⟨w2, by rw [e2, e1], h2, grown_trans g1 g2⟩
theorem own_len {w : World} {base n size : Nat} {e : TypeId} {v : Value} {xs : List Value} (h : w.ownsRow base e size v n xs) : ∃ ao cp, v = .slice ao n cp := by
  rcases h.2 with ⟨rfl, hn⟩ | ⟨g, cap, cur, rfl, _⟩
  · exact ⟨none, 0, by rw [hn]⟩
  · exact ⟨_, _, rfl⟩
end Go.Proofs.Ythiabicleedleaa
