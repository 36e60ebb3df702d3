/- Texts of a proof, merged: OneM, One, OneS, ProveM, ProveF. -/
import Derived.Test.YtefmoljipbbmmaaDoorMerged7
import Derived.Test.YtefmoljipbbmmaaDoorMerged10
import Derived.Maps.AppendAt
import Derived.Test.YtefmoljipbbmmaaDoorMerged0
/- Stories with one answer: the mathematics, without code. -/
namespace Go.Proofs.YtefmoljipbbmmaaDoor
open Go.RowKit
/-- the worlds of a story -/
def swl (p : Int) (s : List Cl) : List Nat := wlp p (storyV p s)
def clashV (p : Int) (s : List Cl) : Bool := storyOk p s && decide (storyN p s = 0)
def onlyOk (p : Int) (s : List Cl) : Bool := decide ((swl p s).length = 1)
def onlyN (p : Int) (s : List Cl) : Int := if (swl p s).length = 1 then ((swl p s).getD 0 0 : Int) else -1
/-- in how many of some worlds a person tells the truth -/
def cntK (l : List Nat) (k : Nat) : Nat := l.countP fun x => x.testBit k
def knownK (l : List Nat) (k : Nat) : Int := if cntK l k = 0 then 0 else if cntK l k = l.length then 1 else -1
def knownF (p : Int) (l : List Nat) : List Int := if l = [] then [] else (List.range p.toNat).map (knownK l)
def knownL (p : Int) (s : List Cl) : List Int := knownF p (swl p s)
/-- a list without the element at a place -/
def woL {α : Type} (s : List α) (k : Nat) : List α := s.take k ++ s.drop (k + 1)
def needB (p : Int) (s : List Cl) (k : Nat) : Bool := decide (storyN p (woL s k) = storyN p s)
def needF (p : Int) (s : List Cl) (n : Nat) : List Nat := (List.range n).filter (needB p s)
def needL (p : Int) (s : List Cl) : List Nat := if storyOk p s then needF p s s.length else []
/-- what is left of a list, of which the first part stays, if each further element is left out where N is the same without it -/
def leastR {α : Type} (N : List α → Nat) (d : List α) : List α → List α
  | [] => d
  | c :: r => if N (d ++ r) = N (d ++ c :: r) then leastR N d r else leastR N (d ++ [c]) r
def leastV (p : Int) (s : List Cl) : List Cl := if storyOk p s then leastR (storyN p) [] s else []
/-! ### worlds of stories -/
theorem swl_no {p : Int} {s : List Cl} (h : storyOk p s = false) : swl p s = [] := by
  unfold swl
  rw [storyV_no h]
  refine wlp_no ?_
  cases ht : tOk p (-1) with
  | false => rfl
  | true => have := (tOk_iff.1 ht).2.2.1; omega
theorem story_tOk {p : Int} {s : List Cl} (h : storyOk p s = true) : tOk p (storyN p s) = true := by
  obtain ⟨_, hp, _⟩ := storyOk_iff.1 h
  obtain ⟨h1, h4⟩ : 1 ≤ p ∧ p ≤ 4 := by simpa [pOk] using hp
  refine tOk_iff.2 ⟨h1, h4, by omega, ?_⟩
  have := tabF_lt (2 ^ p.toNat) (storyT p s)
  exact_mod_cast this
theorem swl_yes {p : Int} {s : List Cl} (h : storyOk p s = true) : swl p s = wl (storyN p s) (2 ^ p.toNat) := by
  unfold swl
  rw [storyV_yes h, wlp_yes (story_tOk h), Int.toNat_natCast]
theorem swl_mem {p : Int} {s : List Cl} (h : storyOk p s = true) {x : Nat} : x ∈ swl p s ↔ x < 2 ^ p.toNat ∧ storyT p s x = true := by
  rw [swl_yes h, wl_mem]
  unfold storyN
  rw [tabF_bit]
  constructor
  · rintro ⟨h1, h2⟩; exact ⟨h1, by simpa [h1] using h2⟩
  · rintro ⟨h1, h2⟩; exact ⟨h1, by simp [h1, h2]⟩
theorem storyN_zero {p : Int} {s : List Cl} : storyN p s = 0 ↔ ∀ x, x < 2 ^ p.toNat → storyT p s x = false := by
  unfold storyN
  constructor
  · intro h x hx
    have := congrArg (fun n => n.testBit x) h
    simpa [tabF_bit, hx] using this
  · intro h
    refine Nat.eq_of_testBit_eq fun j => ?_
    rw [tabF_bit, Nat.zero_testBit]
    by_cases hj : j < 2 ^ p.toNat
    · simp [hj, h j hj]
    · simp [hj]
theorem swl_nil {p : Int} {s : List Cl} (h : storyOk p s = true) : swl p s = [] ↔ storyN p s = 0 := by
  rw [storyN_zero, List.eq_nil_iff_forall_not_mem]
  constructor
  · intro hn x hx
    cases ht : storyT p s x with
    | false => rfl
    | true => exact absurd ((swl_mem h).2 ⟨hx, ht⟩) (hn x)
  · intro hz x hx
    obtain ⟨h1, h2⟩ := (swl_mem h).1 hx
    rw [hz x h1] at h2; cases h2
theorem swl_lt {p : Int} {s : List Cl} {x : Nat} (h : x ∈ swl p s) : storyOk p s = true ∧ x < 2 ^ p.toNat ∧ storyT p s x = true := by
  cases hs : storyOk p s with
  | false => rw [swl_no hs] at h; cases h
  | true => exact ⟨rfl, (swl_mem hs).1 h⟩
theorem swl_nodup (p : Int) (s : List Cl) : (swl p s).Nodup := by
  cases hs : storyOk p s with
  | false => rw [swl_no hs]; exact List.nodup_nil
  | true => rw [swl_yes hs]; unfold wl; exact List.nodup_range.filter _
theorem swl_len (p : Int) (s : List Cl) : (swl p s).length ≤ 16 := by
  cases hs : storyOk p s with
  | false => rw [swl_no hs]; simp
  | true =>
    obtain ⟨_, hp, _⟩ := storyOk_iff.1 hs
    obtain ⟨h1, h4⟩ : 1 ≤ p ∧ p ≤ 4 := by simpa [pOk] using hp
    rw [swl_yes hs]
    have h3 : 2 ^ p.toNat ≤ 16 := two16 (by omega)
    have := wl_le (storyN p s) (2 ^ p.toNat)
    omega
/-! ### clashes -/
theorem clash_snoc {p : Int} {s : List Cl} {c : Cl} (h : storyOk p s = true) (h' : storyOk p (s ++ [c]) = true) (hc : clashV p s = true) : clashV p (s ++ [c]) = true := by
  unfold clashV at hc ⊢
  rw [h] at hc
  rw [h', storyN_snoc]
  simp at hc ⊢
  rw [hc]; simp
theorem clash_liar {p : Int} {s : List Cl} (h' : storyOk p (s ++ [(0, [(0, 0), (2, 0)])]) = true) : clashV p (s ++ [(0, [(0, 0), (2, 0)])]) = true := by
  have hc : claimOk p (0, [(0, 0), (2, 0)]) = true := (storyOk_iff.1 h').1 _ (by simp)
  obtain ⟨h1, h2, h3, _⟩ := claimOk_iff.1 hc
  dsimp only at h1 h2 h3
  have hp := p_of h3
  have hok : (Tm.un (.leaf 0 0)).ok p := by simp only [Tm.ok]; exact .inl ⟨by trivial, h1, h2⟩
  have ht : tmOf p [(0, 0), (2, 0)] = .un (.leaf 0 0) := tmOf_post (t := .un (.leaf 0 0)) hok
  unfold clashV
  rw [h', Bool.true_and, decide_eq_true_eq, storyN_zero]
  intro x _
  rw [storyT_snoc]
  have hm : mayT p (0, [(0, 0), (2, 0)]) x = false := by
    unfold mayT
    dsimp only
    rw [ht, holds_un, holds, if_pos rfl]
    cases x.testBit (Int.toNat 0) <;> rfl
  rw [hm, Bool.and_false]
theorem clash_again {p : Int} {s : List Cl} {c : Cl} (hc : c ∈ s) (h : storyOk p s = true) (h' : storyOk p (s ++ [c]) = true) : clashV p (s ++ [c]) = clashV p s := by
  unfold clashV
  rw [h, h', storyN_ext (s := s ++ [c]) (r := s) (fun d => by simp; intro e; subst e; exact hc)]
theorem clash_nil (p : Int) : clashV p [] = false := by
  unfold clashV
  cases h : storyOk p [] with
  | false => rfl
  | true =>
    rw [storyN_nil, Bool.true_and, decide_eq_false_iff_not]
    have : 2 ^ 1 ≤ 2 ^ (2 ^ p.toNat) := Nat.pow_le_pow_right (by decide) (Nat.two_pow_pos _)
    omega
theorem clash_no {p : Int} {s : List Cl} (h : storyOk p s = false) : clashV p s = false := by simp [clashV, h]
/-! ### known people -/
theorem cntK_le (l : List Nat) (k : Nat) : cntK l k ≤ l.length := List.countP_le_length
theorem cntK_zero {l : List Nat} {k : Nat} : cntK l k = 0 ↔ ∀ x ∈ l, x.testBit k = false := by simp [cntK]
theorem cntK_all {l : List Nat} {k : Nat} : cntK l k = l.length ↔ ∀ x ∈ l, x.testBit k = true := by unfold cntK; rw [List.countP_eq_length]
theorem known_one {l : List Nat} {k : Nat} (hl : l ≠ []) : knownK l k = 1 ↔ ∀ x ∈ l, x.testBit k = true := by
  unfold knownK
  have hl' : 0 < l.length := List.length_pos_iff.2 hl
  rw [← cntK_all]
  split
  · exact ⟨fun h => by simp at h, fun h => by omega⟩
  · split
    · rename_i h; exact ⟨fun _ => h, fun _ => rfl⟩
    · rename_i h; exact ⟨fun h' => by simp at h', fun h' => absurd h' h⟩
theorem known_zero {l : List Nat} {k : Nat} : knownK l k = 0 ↔ ∀ x ∈ l, x.testBit k = false := by
  unfold knownK
  rw [← cntK_zero]
  split
  · rename_i h; exact ⟨fun _ => h, fun _ => rfl⟩
  · rename_i h
    split
    · exact ⟨fun h' => by simp at h', fun h' => absurd h' h⟩
    · exact ⟨fun h' => by simp at h', fun h' => absurd h' h⟩
theorem known_cases (l : List Nat) (k : Nat) : knownK l k = 0 ∨ knownK l k = 1 ∨ knownK l k = -1 := by
  unfold knownK
  split
  · exact .inl rfl
  · split
    · exact .inr (.inl rfl)
    · exact .inr (.inr rfl)
theorem known_not {l : List Nat} {k : Nat} (hl : l ≠ []) (h : knownK l k = -1) : (∃ x ∈ l, x.testBit k = true) ∧ ∃ x ∈ l, x.testBit k = false := by
  have h0 : ¬ ∀ x ∈ l, x.testBit k = false := fun hh => by rw [known_zero.2 hh] at h; cases h
  have h1 : ¬ ∀ x ∈ l, x.testBit k = true := fun hh => by rw [(known_one hl).2 hh] at h; cases h
  refine ⟨?_, ?_⟩
  · refine Classical.byContradiction fun hn => h0 fun x hx => ?_
    cases hb : x.testBit k with
    | false => rfl
    | true => exact absurd ⟨x, hx, hb⟩ hn
  · refine Classical.byContradiction fun hn => h1 fun x hx => ?_
    cases hb : x.testBit k with
    | true => rfl
    | false => exact absurd ⟨x, hx, hb⟩ hn
theorem knownL_len {p : Int} {l : List Nat} : (knownF p l).length = if l = [] then 0 else p.toNat := by
  unfold knownF
  split <;> simp
theorem knownL_get {p : Int} {l : List Nat} {k : Nat} (hl : l ≠ []) (hk : k < p.toNat) : (knownF p l).getD k 0 = knownK l k := by
  unfold knownF
  rw [if_neg hl]
  simp [List.getD, hk]
theorem bits_differ {x y P : Nat} (hx : x < 2 ^ P) (hy : y < 2 ^ P) (h : x ≠ y) : ∃ k, k < P ∧ x.testBit k ≠ y.testBit k := by
  refine Classical.byContradiction fun hn => h (bit_ext hx hy fun j hj => ?_)
  refine Classical.byContradiction fun hne => hn ⟨j, hj, hne⟩
/-- there is one world alone just if something is known of everybody -/
theorem only_iff {p : Int} {s : List Cl} (hs : swl p s ≠ []) : (swl p s).length = 1 ↔ ∀ k, k < p.toNat → knownK (swl p s) k ≠ -1 := by
  constructor
  · intro h k _ hk
    obtain ⟨⟨x, hx, hx1⟩, y, hy, hy1⟩ := known_not hs hk
    match hm : swl p s, h with
    | [z], _ =>
      rw [hm] at hx hy
      simp at hx hy
      subst hx; subst hy
      rw [hx1] at hy1; cases hy1
  · intro h
    match hm : swl p s with
    | [] => exact absurd hm hs
    | [z] => rfl
    | x :: y :: r =>
      exfalso
      have hnd := swl_nodup p s
      rw [hm] at hnd
      have hne : x ≠ y := by intro e; subst e; simp at hnd
      have hx := swl_lt (p := p) (s := s) (x := x) (by rw [hm]; simp)
      have hy := swl_lt (p := p) (s := s) (x := y) (by rw [hm]; simp)
      obtain ⟨k, hk, hb⟩ := bits_differ hx.2.1 hy.2.1 hne
      refine h k hk ?_
      rw [hm]
      rcases known_cases (x :: y :: r) k with h0 | h1 | h2
      · have := known_zero.1 h0
        exact absurd ((this x (by simp)).trans (this y (by simp)).symm) hb
      · have := (known_one (by simp)).1 h1
        exact absurd ((this x (by simp)).trans (this y (by simp)).symm) hb
      · exact h2
theorem only_known {p : Int} {s : List Cl} {z : Nat} (h : swl p s = [z]) (k : Nat) : knownK (swl p s) k = if z.testBit k then 1 else 0 := by
  rw [h]
  cases hb : z.testBit k with
  | true => exact (known_one (by simp)).2 (by simpa using hb)
  | false => exact known_zero.2 (by simpa using hb)
theorem only_may {p : Int} {s : List Cl} {z : Nat} (h : swl p s = [z]) {W : Nat} (hW : W < 2 ^ p.toNat) : storyT p s W = decide (W = z) := by
  have hz := swl_lt (p := p) (s := s) (x := z) (by rw [h]; simp)
  have := swl_mem hz.1 (x := W)
  rw [h] at this
  simp [hW] at this
  rw [Bool.eq_iff_iff, decide_eq_true_eq]
  exact this.symm
theorem known_more {l l' : List Nat} {k : Nat} (hsub : ∀ x ∈ l', x ∈ l) (hl' : l' ≠ []) (h : knownK l k ≠ -1) : knownK l' k = knownK l k := by
  have hl : l ≠ [] := by
    intro e; subst e
    obtain ⟨x, hx⟩ := List.exists_mem_of_ne_nil _ hl'
    cases hsub x hx
  rcases known_cases l k with h0 | h1 | h2
  · rw [h0]; exact known_zero.2 fun x hx => known_zero.1 h0 x (hsub x hx)
  · rw [h1]; exact (known_one hl').2 fun x hx => (known_one hl).1 h1 x (hsub x hx)
  · exact absurd h2 h
theorem swl_snoc {p : Int} {s : List Cl} {c : Cl} (h : storyOk p s = true) : ∀ x ∈ swl p (s ++ [c]), x ∈ swl p s := by
  intro x hx
  obtain ⟨h1, h2, h3⟩ := swl_lt hx
  rw [storyT_snoc] at h3
  simp at h3
  exact (swl_mem h).2 ⟨h2, h3.1⟩
/-! ### needless claims -/
theorem woL_len {α : Type} {s : List α} {k : Nat} (hk : k < s.length) : (woL s k).length = s.length - 1 := by simp [woL]; omega
theorem woL_mem {α : Type} {s : List α} {k : Nat} {c : α} (h : c ∈ woL s k) : c ∈ s := by
  rcases List.mem_append.1 h with h | h
  · exact List.mem_of_mem_take h
  · exact List.mem_of_mem_drop h
theorem woL_map {α β : Type} (f : α → β) (s : List α) (k : Nat) : (woL s k).map f = woL (s.map f) k := by simp [woL]
theorem woL_ok {p : Int} {s : List Cl} {k : Nat} (h : storyOk p s = true) : storyOk p (woL s k) = true :=
  storyOk_sub h (by simp [woL]; omega) (fun _ hc => woL_mem hc)
theorem storyT_wo {p : Int} {s : List Cl} {k : Nat} (hk : k < s.length) (W : Nat) : storyT p s W = (storyT p (woL s k) W && mayT p (s[k]) W) := by
  have e : s = s.take k ++ s[k] :: s.drop (k + 1) := by simp
  have h1 : storyT p s W = storyT p (s.take k ++ s[k] :: s.drop (k + 1)) W := by rw [← e]
  rw [h1]
  unfold storyT woL
  simp only [List.all_append, List.all_cons]
  cases (s.take k).all (fun c => mayT p c W) <;> cases mayT p s[k] W <;> simp
theorem need_iff {p : Int} {s : List Cl} {k : Nat} : needB p s k = true ↔ ∀ W, W < 2 ^ p.toNat → storyT p (woL s k) W = storyT p s W := by
  unfold needB storyN
  rw [decide_eq_true_eq, tabF_ext]
theorem needL_no {p : Int} {s : List Cl} (h : storyOk p s = false) : needL p s = [] := by simp [needL, h]
theorem needL_yes {p : Int} {s : List Cl} (h : storyOk p s = true) : needL p s = needF p s s.length := by simp [needL, h]
theorem needF_succ (p : Int) (s : List Cl) (n : Nat) : needF p s (n + 1) = needF p s n ++ if needB p s n then [n] else [] := by
  unfold needF; rw [List.range_succ, List.filter_append]; simp [List.filter_cons]
theorem needF_mem {p : Int} {s : List Cl} {n k : Nat} : k ∈ needF p s n ↔ k < n ∧ needB p s k = true := by simp [needF]
theorem needF_len (p : Int) (s : List Cl) (n : Nat) : (needF p s n).length ≤ n := by
  unfold needF; have := List.length_filter_le (needB p s) (List.range n); simpa using this
theorem need_twice {p : Int} {s : List Cl} (hs : 0 < s.length) : needB p (s ++ [s[0]]) 0 = true ∧ needB p (s ++ [s[0]]) s.length = true := by
  match s, hs with
  | c :: r, _ =>
    refine ⟨?_, ?_⟩
    · unfold needB
      rw [decide_eq_true_eq]
      exact storyN_ext fun d => by simp [woL]; exact fun e => .inr e
    · unfold needB
      rw [decide_eq_true_eq]
      exact storyN_ext fun d => by
        simp [woL]
        constructor
        · rintro (h | h)
          · exact .inl h
          · exact .inr (.inl h)
        · rintro (h | h | h)
          · exact .inl h
          · exact .inr h
          · exact .inl h
theorem wl_asc (T n : Nat) : ∀ j, j + 1 < (wl T n).length → (wl T n).getD j 0 < (wl T n).getD (j + 1) 0 := by
  intro j hj
  have h : (wl T n).Pairwise (· < ·) := List.pairwise_lt_range.filter _
  have := List.pairwise_iff_getElem.1 h j (j + 1) (by omega) hj (by omega)
  simpa [List.getD, hj, show j < (wl T n).length by omega] using this
theorem needF_asc (p : Int) (s : List Cl) (n : Nat) : ∀ j, j + 1 < (needF p s n).length → (needF p s n).getD j 0 < (needF p s n).getD (j + 1) 0 := by
  intro j hj
  have h : (needF p s n).Pairwise (· < ·) := List.pairwise_lt_range.filter _
  have := List.pairwise_iff_getElem.1 h j (j + 1) (by omega) hj (by omega)
  simpa [List.getD, hj, show j < (needF p s n).length by omega] using this
/-! ### least stories -/
theorem least_map {α β : Type} (f : α → β) (N : List β → Nat) (r : List α) : ∀ d : List α, (leastR (fun l => N (l.map f)) d r).map f = leastR N (d.map f) (r.map f) := by
  induction r with
  | nil => intro d; rfl
  | cons c r ih =>
    intro d
    simp only [leastR, List.map_cons, List.map_append]
    split
    · exact ih d
    · rw [ih (d ++ [c])]; simp
theorem least_same {α : Type} (N : List α → Nat) (r : List α) : ∀ d, N (leastR N d r) = N (d ++ r) := by
  induction r with
  | nil => intro d; simp [leastR]
  | cons c r ih =>
    intro d
    simp only [leastR]
    split
    · rename_i h; rw [ih d, h]
    · rw [ih (d ++ [c])]; simp
theorem least_sub {α : Type} (N : List α → Nat) (r : List α) : ∀ d, (leastR N d r).Sublist (d ++ r) := by
  induction r with
  | nil => intro d; simp [leastR]
  | cons c r ih =>
    intro d
    simp only [leastR]
    split
    · exact (ih d).trans (List.Sublist.append_left (List.sublist_cons_self c r) d)
    · have := ih (d ++ [c]); simpa using this
theorem storyT_sub {p : Int} {s r : List Cl} (h : ∀ c ∈ r, c ∈ s) {W : Nat} (hs : storyT p s W = true) : storyT p r W = true := by
  unfold storyT at hs ⊢
  rw [List.all_eq_true] at hs ⊢
  exact fun c hc => hs c (h c hc)
/-- no claim of the first n ones is needless -/
def Crit (p : Int) (s : List Cl) (n : Nat) : Prop := ∀ i, i < n → ∃ W, W < 2 ^ p.toNat ∧ storyT p (woL s i) W = true ∧ storyT p s W = false
theorem crit_need {p : Int} {s : List Cl} {n : Nat} (h : Crit p s n) {i : Nat} (hi : i < n) : needB p s i = false := by
  cases hb : needB p s i with
  | false => rfl
  | true =>
    obtain ⟨W, hW, h1, h2⟩ := h i hi
    rw [need_iff.1 hb W hW, h2] at h1; cases h1
theorem need_crit {p : Int} {s : List Cl} {i : Nat} (hi : i < s.length) (h : needB p s i = false) : ∃ W, W < 2 ^ p.toNat ∧ storyT p (woL s i) W = true ∧ storyT p s W = false := by
  refine Classical.byContradiction fun hn => ?_
  have : needB p s i = true := need_iff.2 fun W hW => by
    cases h1 : storyT p (woL s i) W with
    | true =>
      cases h2 : storyT p s W with
      | true => rfl
      | false => exact absurd ⟨W, hW, h1, h2⟩ hn
    | false => rw [storyT_wo hi, h1, Bool.false_and]
  rw [h] at this; cases this
theorem least_crit {p : Int} (r : List Cl) : ∀ d, Crit p (d ++ r) d.length → Crit p (leastR (storyN p) d r) (leastR (storyN p) d r).length := by
  induction r with
  | nil => intro d h; simpa [leastR] using h
  | cons c r ih =>
    intro d h
    have hwo : woL (d ++ c :: r) d.length = d ++ r := by simp [woL]
    simp only [leastR]
    split
    · rename_i he
      refine ih d fun i hi => ?_
      obtain ⟨W, hW, h1, h2⟩ := h i hi
      have hn : needB p (d ++ c :: r) d.length = true := by unfold needB; rw [hwo, decide_eq_true_eq]; exact he
      have hs := need_iff.1 hn W hW
      rw [hwo] at hs
      refine ⟨W, hW, storyT_sub (fun e hm => ?_) h1, by rw [hs, h2]⟩
      unfold woL at hm ⊢
      rw [List.take_append_of_le_length (by omega), List.drop_append_of_le_length (by omega)] at hm
      rw [List.take_append_of_le_length (by omega), List.drop_append_of_le_length (by omega)]
      simp only [List.mem_append, List.mem_cons] at hm ⊢
      rcases hm with hm | hm | hm
      · exact .inl hm
      · exact .inr (.inl hm)
      · exact .inr (.inr (.inr hm))
    · rename_i he
      have e : d ++ c :: r = (d ++ [c]) ++ r := by simp
      rw [e] at h hwo
      refine ih (d ++ [c]) fun i hi => ?_
      rw [List.length_append, List.length_singleton] at hi
      by_cases hid : i < d.length
      · exact h i hid
      · obtain rfl : i = d.length := by omega
        refine need_crit (by simp) ?_
        unfold needB
        rw [hwo, decide_eq_false_iff_not]
        simpa using he
theorem least_stays {p : Int} (r : List Cl) : ∀ d, (∀ i, d.length ≤ i → i < (d ++ r).length → needB p (d ++ r) i = false) → leastR (storyN p) d r = d ++ r := by
  induction r with
  | nil => intro d _; simp [leastR]
  | cons c r ih =>
    intro d h
    have hwo : woL (d ++ c :: r) d.length = d ++ r := by simp [woL]
    have hn := h d.length (Nat.le_refl _) (by simp)
    unfold needB at hn
    rw [hwo, decide_eq_false_iff_not] at hn
    simp only [leastR]
    rw [if_neg hn, ih (d ++ [c]) (fun i h1 h2 => by
      have := h i (by simp at h1; omega) (by simpa using h2)
      simpa using this)]
    simp
theorem leastV_no {p : Int} {s : List Cl} (h : storyOk p s = false) : leastV p s = [] := by simp [leastV, h]
theorem leastV_yes {p : Int} {s : List Cl} (h : storyOk p s = true) : leastV p s = leastR (storyN p) [] s := by simp [leastV, h]
/-- what is left of a story is one with the same worlds, of which nothing is needless, and which stays -/
theorem least_all {p : Int} {s : List Cl} (h : storyOk p s = true) : storyOk p (leastV p s) = true ∧ storyN p (leastV p s) = storyN p s ∧ needL p (leastV p s) = [] ∧ leastV p (leastV p s) = leastV p s := by
  rw [leastV_yes h]
  have hsub := least_sub (storyN p) s []
  rw [List.nil_append] at hsub
  have hok : storyOk p (leastR (storyN p) [] s) = true := storyOk_sub h hsub.length_le (fun c hc => hsub.subset hc)
  have hcr := least_crit (p := p) s [] (fun i hi => by simp at hi)
  refine ⟨hok, by rw [least_same (storyN p)]; simp, ?_, ?_⟩
  · rw [needL_yes hok, List.eq_nil_iff_forall_not_mem]
    intro k hk
    obtain ⟨h1, h2⟩ := needF_mem.1 hk
    rw [crit_need hcr h1] at h2; cases h2
  · rw [leastV_yes hok]
    have := least_stays (p := p) (leastR (storyN p) [] s) [] (fun i _ hi => crit_need hcr (by simpa using hi))
    simpa using this
end Go.Proofs.YtefmoljipbbmmaaDoor
/- Contracts of the reference's stories with one answer: what is said of stories in memory. -/
namespace Go.Proofs.YtefmoljipbbmmaaDoor
open Go.RowKit Go.Joins
theorem RdStory.cells {w : World} {B b off n cap : Nat} {qs : List QC} (h : RdStory w B (.slice (some ⟨b, off, none⟩) n cap) qs) : ∀ (j : Nat) (u : Value), (ccells qs)[j]? = some u → w.cell? ((⟨b, off, none⟩ : Addr).add j) = some u := by
  intro j u hj
  obtain ⟨ao, cap', hv, hl, _, _, hc⟩ := h
  cases hv
  have hlt : j < qs.length * 2 := by
    rw [← ccells_length]
    exact (List.getElem?_eq_some_iff.1 hj).1
  obtain ⟨b', off', he, _, h1, h2⟩ := hc (j / 2) (by omega)
  cases he
  obtain ⟨g1, g2⟩ := ccells_get qs (j / 2) (by omega)
  have e : (⟨b, off, none⟩ : Addr).add j = ⟨b, off + j, none⟩ := by simp [Addr.add]
  rw [e]
  rcases Nat.mod_two_eq_zero_or_one j with hm | hm
  · have ej : j = j / 2 * 2 := by omega
    rw [ej] at hj ⊢
    rw [g1] at hj
    cases hj
    exact h1
  · have ej : j = j / 2 * 2 + 1 := by omega
    rw [ej] at hj ⊢
    rw [g2] at hj
    cases hj
    exact h2
theorem RdStory.one {w : World} {B : Nat} {v : Value} {qs : List QC} (h : RdStory w B v qs) : ∀ u ∈ ccells qs, u.oneCell' = true := by
  obtain ⟨_, _, _, _, _, hi, _⟩ := h
  refine ccells_one fun q hq => ?_
  obtain ⟨ao, cap, hv, _⟩ := (hi q hq).1
  rw [hv]; rfl
theorem getD_take {qs : List QC} {k j : Nat} (h : j < k) : (qs.take k).getD j qc0 = qs.getD j qc0 := by
  rw [List.getD_eq_getElem?_getD, List.getD_eq_getElem?_getD, List.getElem?_take, if_pos h]
theorem getD_drop {qs : List QC} {k j : Nat} : (qs.drop k).getD j qc0 = qs.getD (k + j) qc0 := by
  rw [List.getD_eq_getElem?_getD, List.getD_eq_getElem?_getD, List.getElem?_drop]
/-- the first claims of a story -/
theorem RdStory.pre {w : World} {B : Nat} {ao : Option Addr} {n cap k : Nat} {qs : List QC} (h : RdStory w B (.slice ao n cap) qs) (hk : k ≤ n) : RdStory w B (.slice ao k cap) (qs.take k) := by
  obtain ⟨ao', cap', hv, hl, hm, hi, hc⟩ := h
  cases hv
  refine ⟨ao, cap, by rw [List.length_take, Nat.min_eq_left hk], by rw [List.length_take]; omega, hm, fun q hq => hi q (List.mem_of_mem_take hq), fun j hj => ?_⟩
  rw [List.length_take] at hj
  rw [getD_take (by omega)]
  exact hc j (by omega)
/-- the claims of a story behind the first ones -/
theorem RdStory.post {w : World} {B b off n cap k : Nat} {qs : List QC} (h : RdStory w B (.slice (some ⟨b, off, none⟩) n cap) qs) (hk : k ≤ n) : RdStory w B (.slice (some ⟨b, off + k * 2, none⟩) (n - k) (cap - k)) (qs.drop k) := by
  obtain ⟨ao', cap', hv, hl, hm, hi, hc⟩ := h
  cases hv
  refine ⟨_, cap - k, by rw [List.length_drop], by rw [List.length_drop]; omega, by omega, fun q hq => hi q (List.mem_of_mem_drop hq), fun j hj => ?_⟩
  rw [List.length_drop] at hj
  obtain ⟨b', off', he, h1, h2, h3⟩ := hc (k + j) (by omega)
  cases he
  rw [getD_drop]
  refine ⟨b, off + k * 2, rfl, h1, ?_, ?_⟩
  · rw [← h2]; congr 2; omega
  · rw [← h3]; congr 2; omega
theorem rdStory_own {w : World} {base n : Nat} {v : Value} {qs : List QC} (ho : w.ownsRow base TC 2 v n (ccells qs)) (hn : n = qs.length) (hq' : ∀ q ∈ qs, RdMarks w w.heap.size q.1 q.2.2 ∧ I64 q.2.1) : RdStory w w.heap.size v qs := by
  subst hn
  rcases ho.2 with ⟨rfl, hn⟩ | ⟨g, cap, cur, rfl, hb, hg, hnc, hcm, hcs, htake⟩
  · have : qs = [] := List.eq_nil_of_length_eq_zero hn
    subst this
    exact ⟨none, 0, rfl, Nat.le_refl _, by unfold maxLen; omega, hq', fun j hj => by simp at hj⟩
  · refine ⟨_, cap, rfl, hnc, hcm, hq', fun j hj => ⟨g, 0, rfl, (Array.getElem?_eq_some_iff.1 hg).1, ?_, ?_⟩⟩
    · rw [cell_of_row w g (0 + j * 2) cur TC (0, 0) hg]
      have h1 := (ccells_get qs j hj).1
      rw [← htake, List.getElem?_take] at h1
      split at h1
      · simpa using h1
      · cases h1
    · rw [cell_of_row w g (0 + j * 2 + 1) cur TC (0, 0) hg]
      have h1 := (ccells_get qs j hj).2
      rw [← htake, List.getElem?_take] at h1
      split at h1
      · simpa using h1
      · cases h1
theorem RdStory.marks {w : World} {B : Nat} {v : Value} {qs : List QC} (h : RdStory w B v qs) : ∀ q ∈ qs, RdMarks w B q.1 q.2.2 ∧ I64 q.2.1 := by
  obtain ⟨_, _, _, _, _, hi, _⟩ := h
  exact hi
theorem RdStory.len {w : World} {B : Nat} {v : Value} {qs : List QC} (h : RdStory w B v qs) : ∃ ao cap, v = .slice ao qs.length cap ∧ qs.length ≤ cap ∧ cap ≤ maxLen ∧ (0 < qs.length → ∃ b off, ao = some ⟨b, off, none⟩ ∧ b < B) := by
  obtain ⟨ao, cap, hv, hl, hm, _, hc⟩ := h
  exact ⟨ao, cap, hv, hl, hm, fun h0 => by obtain ⟨b, off, h1, h2, _⟩ := hc 0 h0; exact ⟨b, off, h1, h2⟩⟩
theorem clash_yes {p : Int} {s : List Cl} (h : storyOk p s = true) : clashV p s = decide (storyN p s = 0) := by simp [clashV, h]
theorem onlyN_one {p : Int} {s : List Cl} {z : Nat} (h : swl p s = [z]) : onlyN p s = z ∧ onlyOk p s = true := by simp [onlyN, onlyOk, h]
theorem onlyN_not {p : Int} {s : List Cl} (h : (swl p s).length ≠ 1) : onlyN p s = -1 ∧ onlyOk p s = false := by simp [onlyN, onlyOk, h]
theorem woL_take_drop (qs : List QC) (k : Nat) : ccells (woL qs k) = ccells (qs.take k) ++ ccells (qs.drop (k + 1)) := by unfold woL; rw [ccells_append]
def QN (p : Int) (l : List QC) : Nat := storyN p (l.map (·.2))
theorem least_step (N : List QC → Nat) {zs : List QC} {n : Nat} (hn : n < zs.length) : leastR N (zs.take n) (zs.drop n) = if N (woL zs n) = N zs then leastR N ((woL zs n).take n) ((woL zs n).drop n) else leastR N (zs.take (n + 1)) (zs.drop (n + 1)) := by
  have e1 : zs.drop n = zs[n] :: zs.drop (n + 1) := List.drop_eq_getElem_cons hn
  have e2 : zs.take n ++ zs[n] :: zs.drop (n + 1) = zs := by rw [← e1, List.take_append_drop]
  have hl : (zs.take n).length = n := by rw [List.length_take]; omega
  have e3 : (woL zs n).take n = zs.take n := by unfold woL; rw [List.take_append_of_le_length (by omega), List.take_take, Nat.min_self]
  have e4 : (woL zs n).drop n = zs.drop (n + 1) := by unfold woL; rw [List.drop_append_of_le_length (by omega), List.drop_of_length_le (by omega), List.nil_append]
  have e5 : zs.take (n + 1) = zs.take n ++ [zs[n]] := List.take_succ_eq_append_getElem hn
  rw [e1, e3, e4, e5]
  simp only [leastR]
  rw [e2]
  rfl
theorem least_done (N : List QC → Nat) (zs : List QC) : leastR N (zs.take zs.length) (zs.drop zs.length) = zs := by
  rw [List.take_length, List.drop_length]; rfl
theorem least_QN {p : Int} {us : List QC} {s : List Cl} (h : us.map (·.2) = s) : (leastR (QN p) [] us).map (·.2) = leastR (storyN p) [] s := by
  rw [← h]
  exact least_map (fun q : QC => q.2) (storyN p) us []
end Go.Proofs.YtefmoljipbbmmaaDoor
/- Contracts of the reference's stories with one answer: clashes, only worlds, known people. -/
namespace Go.Proofs.YtefmoljipbbmmaaDoor
open Go.RowKit Go.Joins
attribute [local irreducible] holds tabN tabV holdsV sameV followsV alwaysV matterV claimOk mayT mayV ctabV ctabN storyV storyOk storyN storyT ctermV ctermL clashV onlyOk onlyN knownF knownL knownK cntK swl needB needF needL leastR leastV
end Go.Proofs.YtefmoljipbbmmaaDoor
/- Proofs by cases: the mathematics, without code: what is known, splits, their trees; each proof is right, and whatever holds has one. -/
namespace Go.Proofs.YtefmoljipbbmmaaDoor
open Go.RowKit
/-- a split: who, and where the two cases go on -/
abbrev Sp3 := Int × Int × Int
def sp0 : Sp3 := (0, 0, 0)
def bit11 (W k : Nat) : Int := if W.testBit k then 1 else 0
/-- a world agrees with what is known -/
def agreeB (P : Nat) (kn : List Int) (W : Nat) : Bool := (List.range P).all fun k => decide (kn.getD k 0 < 0) || decide (kn.getD k 0 = bit11 W k)
theorem agree_iff {P : Nat} {kn : List Int} {W : Nat} : agreeB P kn W = true ↔ ∀ k, k < P → kn.getD k 0 < 0 ∨ kn.getD k 0 = bit11 W k := by
  unfold agreeB
  rw [List.all_eq_true]
  constructor
  · intro h k hk
    have := h k (List.mem_range.2 hk)
    simpa using this
  · intro h k hk
    simpa using h k (List.mem_range.1 hk)
/-- a case is closed by a target -/
def closeB (P : Nat) (hf : Nat → Bool) (cl : List (Nat → Bool)) (g : Int) (kn : List Int) : Bool :=
  if g = -1 then (List.range (2 ^ P)).all fun W => !agreeB P kn W || hf W
  else decide (0 ≤ -2 - g ∧ -2 - g < cl.length) && (List.range (2 ^ P)).all fun W => !agreeB P kn W || !(cl.getD (-2 - g).toNat (fun _ => true)) W
theorem close_goal {P : Nat} {hf : Nat → Bool} {cl : List (Nat → Bool)} {kn : List Int} : closeB P hf cl (-1) kn = true ↔ ∀ W, W < 2 ^ P → agreeB P kn W = true → hf W = true := by
  unfold closeB
  rw [if_pos rfl, List.all_eq_true]
  constructor
  · intro h W hW ha
    have := h W (List.mem_range.2 hW)
    rw [ha] at this
    simpa using this
  · intro h W hW
    cases ha : agreeB P kn W with
    | false => rfl
    | true => rw [h W (List.mem_range.1 hW) ha]; rfl
theorem close_claim {P : Nat} {hf : Nat → Bool} {cl : List (Nat → Bool)} {g : Int} {kn : List Int} (hg : g ≠ -1) : closeB P hf cl g kn = true ↔ (0 ≤ -2 - g ∧ -2 - g < cl.length) ∧ ∀ W, W < 2 ^ P → agreeB P kn W = true → cl.getD (-2 - g).toNat (fun _ => true) W = false := by
  unfold closeB
  rw [if_neg hg, Bool.and_eq_true, decide_eq_true_eq, List.all_eq_true]
  constructor
  · rintro ⟨h1, h2⟩
    refine ⟨h1, fun W hW ha => ?_⟩
    have := h2 W (List.mem_range.2 hW)
    rw [ha] at this
    simpa using this
  · rintro ⟨h1, h2⟩
    refine ⟨h1, fun W hW => ?_⟩
    cases ha : agreeB P kn W with
    | false => rfl
    | true => rw [h2 W (List.mem_range.1 hW) ha]; rfl
/-- what a closed case tells -/
theorem close_sound {P : Nat} {hf : Nat → Bool} {cl : List (Nat → Bool)} {g : Int} {kn : List Int} (h : closeB P hf cl g kn = true) {W : Nat} (hW : W < 2 ^ P) (ha : agreeB P kn W = true) (hc : ∀ c ∈ cl, c W = true) : hf W = true := by
  by_cases hg : g = -1
  · subst hg; exact close_goal.1 h W hW ha
  · obtain ⟨h1, h2⟩ := (close_claim hg).1 h
    have h3 := h2 W hW ha
    have hlt : (-2 - g).toNat < cl.length := by omega
    have h4 := hc _ (List.getElem_mem hlt)
    rw [show cl.getD (-2 - g).toNat (fun _ => true) = cl[(-2 - g).toNat] by simp [List.getD, hlt]] at h3
    rw [h3] at h4; cases h4
/-- with further claims behind it stays closed -/
theorem close_more {P : Nat} {hf : Nat → Bool} {cl ds : List (Nat → Bool)} {g : Int} {kn : List Int} (h : closeB P hf cl g kn = true) : closeB P hf (cl ++ ds) g kn = true := by
  by_cases hg : g = -1
  · subst hg; exact close_goal.2 (close_goal.1 h)
  · obtain ⟨h1, h2⟩ := (close_claim hg).1 h
    refine (close_claim hg).2 ⟨by rw [List.length_append]; omega, fun W hW ha => ?_⟩
    have hlt : (-2 - g).toNat < cl.length := by omega
    have := h2 W hW ha
    simp only [List.getD, List.getElem?_append_left hlt]
    exact this
/-! ### trees -/
inductive PT where
  | leaf (g : Int)
  | node (who : Nat) (a b : PT)
def PT.size : PT → Nat
  | .leaf _ => 0
  | .node _ a b => 1 + a.size + b.size
def PT.tgt : PT → Nat → Int
  | .leaf g, _ => g
  | .node _ _ _, n => n
/-- the splits of a tree, the first one at place n -/
def PT.flat : PT → Nat → List Sp3
  | .leaf _, _ => []
  | .node k a b, n => ((k : Int), a.tgt (n + 1), b.tgt (n + 1 + a.size)) :: (a.flat (n + 1) ++ b.flat (n + 1 + a.size))
theorem PT.flat_len : ∀ (t : PT) (n : Nat), (t.flat n).length = t.size
  | .leaf _, _ => rfl
  | .node k a b, n => by simp [PT.flat, PT.size, PT.flat_len a, PT.flat_len b]; omega
/-- whether a tree is right from what is known on -/
def PT.ok (P : Nat) (hf : Nat → Bool) (cl : List (Nat → Bool)) : PT → List Int → Bool
  | .leaf g, kn => decide (g < 0) && closeB P hf cl g kn
  | .node k a b, kn => decide (k < P) && (decide (kn.getD k 0 < 0) && (a.ok P hf cl (kn.set k 0) && b.ok P hf cl (kn.set k 1)))
theorem getD_set {kn : List Int} {k j : Nat} {z : Int} (hk : k < kn.length) : (kn.set k z).getD j 0 = if j = k then z else kn.getD j 0 := by
  by_cases h : j = k
  · subst h; rw [if_pos rfl]; simp [List.getD, hk]
  · rw [if_neg h]; simp [List.getD, List.getElem?_set_ne (Ne.symm h)]
theorem agree_set {P : Nat} {kn : List Int} {k W : Nat} (hl : kn.length = P) (hk : k < P) (hn : kn.getD k 0 < 0) (z : Int) (hz : 0 ≤ z) : agreeB P (kn.set k z) W = true ↔ agreeB P kn W = true ∧ z = bit11 W k := by
  rw [agree_iff, agree_iff]
  constructor
  · intro h
    have hkk := h k hk
    rw [getD_set (by omega), if_pos rfl] at hkk
    refine ⟨fun j hj => ?_, by omega⟩
    by_cases hjk : j = k
    · subst hjk; exact .inl hn
    · have := h j hj
      rw [getD_set (by omega), if_neg hjk] at this
      exact this
  · rintro ⟨h, hz2⟩ j hj
    rw [getD_set (by omega)]
    by_cases hjk : j = k
    · rw [if_pos hjk, hjk]; exact .inr hz2
    · rw [if_neg hjk]; exact h j hj
theorem bit_cases (W k : Nat) : bit11 W k = 0 ∨ bit11 W k = 1 := by unfold bit11; cases W.testBit k <;> simp
/-- each proof is right -/
theorem PT.sound {P : Nat} {hf : Nat → Bool} {cl : List (Nat → Bool)} : ∀ (t : PT) (kn : List Int), kn.length = P → t.ok P hf cl kn = true → ∀ W, W < 2 ^ P → agreeB P kn W = true → (∀ c ∈ cl, c W = true) → hf W = true
  | .leaf g, kn, _, h, W, hW, ha, hc => by
    rw [PT.ok, Bool.and_eq_true] at h
    exact close_sound h.2 hW ha hc
  | .node k a b, kn, hl, h, W, hW, ha, hc => by
    rw [PT.ok, Bool.and_eq_true, Bool.and_eq_true, Bool.and_eq_true, decide_eq_true_eq, decide_eq_true_eq] at h
    obtain ⟨hk, hn, h1, h2⟩ := h
    rcases bit_cases W k with hb | hb
    · exact PT.sound a (kn.set k 0) (by simpa using hl) h1 W hW ((agree_set hl hk hn 0 (by omega)).2 ⟨ha, hb.symm⟩) hc
    · exact PT.sound b (kn.set k 1) (by simpa using hl) h2 W hW ((agree_set hl hk hn 1 (by omega)).2 ⟨ha, hb.symm⟩) hc
theorem PT.more {P : Nat} {hf : Nat → Bool} {cl ds : List (Nat → Bool)} : ∀ (t : PT) (kn : List Int), t.ok P hf cl kn = true → t.ok P hf (cl ++ ds) kn = true
  | .leaf g, kn, h => by
    rw [PT.ok, Bool.and_eq_true] at h ⊢
    exact ⟨h.1, close_more h.2⟩
  | .node k a b, kn, h => by
    rw [PT.ok, Bool.and_eq_true, Bool.and_eq_true, Bool.and_eq_true] at h ⊢
    exact ⟨h.1, h.2.1, PT.more a _ h.2.2.1, PT.more b _ h.2.2.2⟩
/-- how many are not known -/
def unkN (P : Nat) (kn : List Int) : Nat := (List.range P).countP fun k => decide (kn.getD k 0 < 0)
theorem unk_set {P : Nat} {kn : List Int} {k : Nat} (hl : kn.length = P) (hk : k < P) (hn : kn.getD k 0 < 0) {z : Int} (hz : 0 ≤ z) : unkN P (kn.set k z) + 1 = unkN P kn := by
  have key : ∀ n, n ≤ P → ((List.range n).countP fun j => decide ((kn.set k z).getD j 0 < 0)) + (if k < n then 1 else 0) = (List.range n).countP fun j => decide (kn.getD j 0 < 0) := by
    intro n
    induction n with
    | zero => intro _; rfl
    | succ n ih =>
      intro hnP
      have h := ih (by omega)
      rw [List.range_succ, List.countP_append, List.countP_append, ← h]
      simp only [List.countP_cons, List.countP_nil, Nat.zero_add]
      rw [getD_set (by omega)]
      by_cases hkn : n = k
      · subst hkn
        rw [if_pos rfl, if_neg (by omega : ¬ n < n), if_pos (by omega : n < n + 1), decide_eq_true hn, decide_eq_false (by omega)]
        simp
      · rw [if_neg hkn]
        by_cases hlt : k < n
        · rw [if_pos hlt, if_pos (by omega : k < n + 1)]; omega
        · rw [if_neg hlt, if_neg (by omega : ¬ k < n + 1)]; omega
  have := key P (Nat.le_refl _)
  rw [if_pos hk] at this
  exact this
theorem PT.size_le {P : Nat} {hf : Nat → Bool} {cl : List (Nat → Bool)} : ∀ (t : PT) (kn : List Int), kn.length = P → t.ok P hf cl kn = true → t.size + 1 ≤ 2 ^ unkN P kn
  | .leaf g, kn, _, _ => by show 0 + 1 ≤ _; exact Nat.one_le_two_pow
  | .node k a b, kn, hl, h => by
    rw [PT.ok, Bool.and_eq_true, Bool.and_eq_true, Bool.and_eq_true, decide_eq_true_eq, decide_eq_true_eq] at h
    obtain ⟨hk, hn, h1, h2⟩ := h
    have e1 := unk_set hl hk hn (z := 0) (by omega)
    have e2 := unk_set hl hk hn (z := 1) (by omega)
    have i1 := PT.size_le a (kn.set k 0) (by simpa using hl) h1
    have i2 := PT.size_le b (kn.set k 1) (by simpa using hl) h2
    rw [← e1, Nat.pow_succ]
    rw [show unkN P (kn.set k 1) = unkN P (kn.set k 0) by omega] at i2
    show 1 + a.size + b.size + 1 ≤ _
    omega
/-! ### finding -/
/-- the first claim that closes the case -/
def clashF (P : Nat) (hf : Nat → Bool) (cl : List (Nat → Bool)) (kn : List Int) : Option Nat := (List.range cl.length).find? fun k => closeB P hf cl (-2 - k) kn
/-- the least person who is not known -/
def leastU (P : Nat) (kn : List Int) : Option Nat := (List.range P).find? fun k => decide (kn.getD k 0 < 0)
def growT (P : Nat) (hf : Nat → Bool) (cl : List (Nat → Bool)) : Nat → List Int → Option PT
  | f, kn =>
    if closeB P hf cl (-1) kn then some (.leaf (-1))
    else match clashF P hf cl kn with
      | some k => some (.leaf (-2 - k))
      | none => match leastU P kn with
        | none => none
        | some k => match f with
          | 0 => none
          | f + 1 => match growT P hf cl f (kn.set k 0), growT P hf cl f (kn.set k 1) with
            | some a, some b => some (.node k a b)
            | _, _ => none
theorem least_some {P : Nat} {kn : List Int} {k : Nat} (h : leastU P kn = some k) : k < P ∧ kn.getD k 0 < 0 := by
  unfold leastU at h
  have h1 := List.mem_of_find?_eq_some h
  have h2 := List.find?_some h
  exact ⟨List.mem_range.1 h1, by simpa using h2⟩
theorem least_none {P : Nat} {kn : List Int} (h : leastU P kn = none) : ∀ k, k < P → 0 ≤ kn.getD k 0 := by
  unfold leastU at h
  rw [List.find?_eq_none] at h
  intro k hk
  have := h k (List.mem_range.2 hk)
  exact Int.not_lt.1 (fun hn => this (decide_eq_true hn))
theorem clash_some {P : Nat} {hf : Nat → Bool} {cl : List (Nat → Bool)} {kn : List Int} {k : Nat} (h : clashF P hf cl kn = some k) : k < cl.length ∧ closeB P hf cl (-2 - k) kn = true := by
  unfold clashF at h
  have h2 := List.find?_some (p := fun k : Nat => closeB P hf cl (-2 - k) kn) h
  exact ⟨List.mem_range.1 (List.mem_of_find?_eq_some h), h2⟩
theorem clash_none11 {P : Nat} {hf : Nat → Bool} {cl : List (Nat → Bool)} {kn : List Int} (h : clashF P hf cl kn = none) : ∀ k, k < cl.length → closeB P hf cl (-2 - k) kn = false := by
  unfold clashF at h
  rw [List.find?_eq_none] at h
  intro k hk
  have := h k (List.mem_range.2 hk)
  simpa using this
/-- a found proof is right -/
theorem grow_ok {P : Nat} {hf : Nat → Bool} {cl : List (Nat → Bool)} : ∀ (f : Nat) (kn : List Int) (t : PT), growT P hf cl f kn = some t → t.ok P hf cl kn = true := by
  intro f
  induction f with
  | zero =>
    intro kn t h
    unfold growT at h
    split at h
    · rename_i hc; cases h; simp [PT.ok, hc]
    · split at h
      · rename_i k hk
        obtain ⟨h1, h2⟩ := clash_some hk
        cases h
        rw [PT.ok, h2, decide_eq_true (by omega)]; rfl
      · split at h <;> cases h
  | succ f ih =>
    intro kn t h
    unfold growT at h
    split at h
    · rename_i hc; cases h; simp [PT.ok, hc]
    · split at h
      · rename_i k hk
        obtain ⟨h1, h2⟩ := clash_some hk
        cases h
        rw [PT.ok, h2, decide_eq_true (by omega)]; rfl
      · split at h
        · cases h
        · rename_i k hk
          obtain ⟨h1, h2⟩ := least_some hk
          dsimp only at h
          split at h
          · rename_i a b ha hb
            cases h
            rw [PT.ok, decide_eq_true h1, decide_eq_true h2, ih _ _ ha, ih _ _ hb]; rfl
          · cases h
/-- whatever holds has a proof -/
theorem grow_complete {P : Nat} {hf : Nat → Bool} {cl : List (Nat → Bool)} : ∀ (f : Nat) (kn : List Int), kn.length = P → unkN P kn ≤ f → (∀ W, W < 2 ^ P → agreeB P kn W = true → (∀ c ∈ cl, c W = true) → hf W = true) → (∀ k, k < P → kn.getD k 0 ≤ 1) → ∃ t, growT P hf cl f kn = some t := by
  intro f
  induction f with
  | zero =>
    intro kn hl hu hh h01
    unfold growT
    by_cases hg : closeB P hf cl (-1) kn = true
    · rw [if_pos hg]; exact ⟨_, rfl⟩
    · rw [if_neg hg]
      cases hc : clashF P hf cl kn with
      | some k => exact ⟨_, rfl⟩
      | none =>
        exfalso
        have hz : ∀ k, k < P → 0 ≤ kn.getD k 0 := by
          intro k hk
          by_cases hn : kn.getD k 0 < 0
          · have := unk_set hl hk hn (z := 0) (by omega); omega
          · omega
        exact last_case hz h01 hg hc hh
  | succ f ih =>
    intro kn hl hu hh h01
    unfold growT
    by_cases hg : closeB P hf cl (-1) kn = true
    · rw [if_pos hg]; exact ⟨_, rfl⟩
    · rw [if_neg hg]
      cases hc : clashF P hf cl kn with
      | some k => exact ⟨_, rfl⟩
      | none =>
        cases hw : leastU P kn with
        | none => exact absurd hh (fun hh => last_case (least_none hw) h01 hg hc hh)
        | some k =>
          obtain ⟨hk, hn⟩ := least_some hw
          have step : ∀ z, (z = 0 ∨ z = 1) → ∃ t, growT P hf cl f (kn.set k z) = some t := fun z hz => by
            have hz0 : 0 ≤ z := by omega
            refine ih (kn.set k z) (by simpa using hl) (by have := unk_set hl hk hn hz0; omega) (fun W hW ha hcl => hh W hW ((agree_set hl hk hn z hz0).1 ha).1 hcl) (fun j hj => ?_)
            rw [getD_set (by omega)]
            split
            · omega
            · exact h01 j hj
          obtain ⟨a, ha⟩ := step 0 (.inl rfl)
          obtain ⟨b, hb⟩ := step 1 (.inr rfl)
          exact ⟨_, by dsimp only; rw [ha, hb]⟩
where
  last_case {P : Nat} {hf : Nat → Bool} {cl : List (Nat → Bool)} {kn : List Int} (hz : ∀ k, k < P → 0 ≤ kn.getD k 0) (h01 : ∀ k, k < P → kn.getD k 0 ≤ 1) (hg : ¬ closeB P hf cl (-1) kn = true) (hc : clashF P hf cl kn = none)
      (hh : ∀ W, W < 2 ^ P → agreeB P kn W = true → (∀ c ∈ cl, c W = true) → hf W = true) : False := by
    have uniq : ∀ W V, W < 2 ^ P → V < 2 ^ P → agreeB P kn W = true → agreeB P kn V = true → W = V := fun W V hW hV ha hb => by
      refine Nat.eq_of_testBit_eq fun j => ?_
      by_cases hj : j < P
      · have h1 := agree_iff.1 ha j hj
        have h2 := agree_iff.1 hb j hj
        have h3 := hz j hj
        have h4 : bit11 W j = bit11 V j := by omega
        unfold bit11 at h4
        cases hw : W.testBit j <;> cases hv : V.testBit j <;> rw [hw, hv] at h4 <;> first | rfl | (simp at h4)
      · rw [Nat.testBit_lt_two_pow (Nat.lt_of_lt_of_le hW (Nat.pow_le_pow_right (by decide) (by omega))), Nat.testBit_lt_two_pow (Nat.lt_of_lt_of_le hV (Nat.pow_le_pow_right (by decide) (by omega)))]
    rw [close_goal] at hg
    refine hg fun W hW ha => hh W hW ha fun c hcm => ?_
    obtain ⟨k, hk, rfl⟩ := List.getElem_of_mem hcm
    have hcl := clash_none11 hc k hk
    cases hv : cl[k] W with
    | true => rfl
    | false =>
      exfalso
      have : closeB P hf cl (-2 - k) kn = true := (close_claim (by omega)).2 ⟨by omega, fun V hV hb => by
        rw [uniq V W hV hW hb ha, show (-2 - (-2 - (k : Int))).toNat = k by omega]
        simp [List.getD, hk, hv]⟩
      rw [this] at hcl; cases hcl
/-- a proof is found exactly if the term holds in all worlds that agree and in which all claims may be made -/
theorem grow_iff {P : Nat} {hf : Nat → Bool} {cl : List (Nat → Bool)} {f : Nat} {kn : List Int} (hl : kn.length = P) (hu : unkN P kn ≤ f) (h01 : ∀ k, k < P → kn.getD k 0 ≤ 1) : (growT P hf cl f kn).isSome = true ↔ ∀ W, W < 2 ^ P → agreeB P kn W = true → (∀ c ∈ cl, c W = true) → hf W = true := by
  constructor
  · intro h
    obtain ⟨t, ht⟩ := Option.isSome_iff_exists.1 h
    exact PT.sound t kn hl (grow_ok f kn t ht)
  · intro h
    obtain ⟨t, ht⟩ := grow_complete f kn hl hu h h01
    rw [ht]; rfl
/-! ### what is known at first -/
def noneK (P : Nat) : List Int := List.replicate P (-1)
theorem noneK_len (P : Nat) : (noneK P).length = P := by simp [noneK]
theorem noneK_get {P k : Nat} (hk : k < P) : (noneK P).getD k 0 = -1 := by simp [noneK, List.getD, hk]
theorem noneK_agree (P W : Nat) : agreeB P (noneK P) W = true := agree_iff.2 fun k hk => .inl (by rw [noneK_get hk]; decide)
theorem noneK_unk (P : Nat) : unkN P (noneK P) = P := by
  unfold unkN
  have : (List.range P).countP (fun k => decide ((noneK P).getD k 0 < 0)) = (List.range P).length := by
    rw [List.countP_eq_length]
    intro k hk
    rw [noneK_get (List.mem_range.1 hk)]; rfl
  rw [this, List.length_range]
end Go.Proofs.YtefmoljipbbmmaaDoor
/- Proofs by cases: rows of splits, their checks, their texts, and the reading of texts; without code. -/
namespace Go.Proofs.YtefmoljipbbmmaaDoor
open Go.RowKit
def nextOk (n : Nat) (g x : Int) : Bool := decide (x < 0) || (decide (g < x) && decide (x < n))
/-- how many splits are come to from a target on; none if it is not right there -/
def checks (P : Nat) (hf : Nat → Bool) (cl : List (Nat → Bool)) (sp : List Sp3) : Nat → Int → List Int → Option Nat
  | 0, _, _ => none
  | f + 1, g, kn =>
    if g < 0 then (if closeB P hf cl g kn then some 0 else none)
    else if decide (0 ≤ (sp.getD g.toNat sp0).1 ∧ (sp.getD g.toNat sp0).1 < P) && decide (kn.getD (sp.getD g.toNat sp0).1.toNat 0 < 0) then
      (if nextOk sp.length g (sp.getD g.toNat sp0).2.1 then
        match checks P hf cl sp f (sp.getD g.toNat sp0).2.1 (kn.set (sp.getD g.toNat sp0).1.toNat 0) with
        | none => none
        | some a => if nextOk sp.length g (sp.getD g.toNat sp0).2.2 then
            match checks P hf cl sp f (sp.getD g.toNat sp0).2.2 (kn.set (sp.getD g.toNat sp0).1.toNat 1) with
            | none => none
            | some b => some (1 + a + b)
          else none
      else none)
    else none
/-- the tree of a row of splits from a target on -/
def treeOf (sp : List Sp3) : Nat → Int → PT
  | 0, g => .leaf g
  | f + 1, g => if g < 0 then .leaf g else .node (sp.getD g.toNat sp0).1.toNat (treeOf sp f (sp.getD g.toNat sp0).2.1) (treeOf sp f (sp.getD g.toNat sp0).2.2)
theorem checks_node {P : Nat} {hf : Nat → Bool} {cl : List (Nat → Bool)} {sp : List Sp3} {f : Nat} {g : Int} {kn : List Int} {n : Nat} (hg : 0 ≤ g) (h : checks P hf cl sp (f + 1) g kn = some n) :
    ∃ (k : Nat) (x y : Int) (a b : Nat), sp.getD g.toNat sp0 = ((k : Int), x, y) ∧ k < P ∧ kn.getD k 0 < 0 ∧ nextOk sp.length g x = true ∧ nextOk sp.length g y = true ∧ checks P hf cl sp f x (kn.set k 0) = some a ∧ checks P hf cl sp f y (kn.set k 1) = some b ∧ n = 1 + a + b := by
  unfold checks at h
  rw [if_neg (by omega)] at h
  generalize sp.getD g.toNat sp0 = s at *
  obtain ⟨w, x, y⟩ := s
  dsimp only at h
  split at h
  · rename_i hw
    rw [Bool.and_eq_true, decide_eq_true_eq, decide_eq_true_eq] at hw
    obtain ⟨k, rfl⟩ := Int.eq_ofNat_of_zero_le hw.1.1
    rw [Int.toNat_natCast] at h hw
    split at h
    · rename_i hx
      split at h
      · cases h
      · rename_i a ha
        split at h
        · rename_i hy
          split at h
          · cases h
          · rename_i b hb
            cases h
            exact ⟨k, x, y, a, b, rfl, by omega, hw.2, hx, hy, ha, hb, rfl⟩
        · cases h
    · cases h
  · cases h
theorem checks_of {P : Nat} {hf : Nat → Bool} {cl : List (Nat → Bool)} {sp : List Sp3} {f : Nat} {g : Int} {kn : List Int} {k : Nat} {x y : Int} {a b : Nat} (hg : 0 ≤ g) (hs : sp.getD g.toNat sp0 = ((k : Int), x, y)) (hk : k < P) (hn : kn.getD k 0 < 0) (hx : nextOk sp.length g x = true) (hy : nextOk sp.length g y = true)
    (ha : checks P hf cl sp f x (kn.set k 0) = some a) (hb : checks P hf cl sp f y (kn.set k 1) = some b) : checks P hf cl sp (f + 1) g kn = some (1 + a + b) := by
  unfold checks
  rw [if_neg (by omega), hs]
  dsimp only
  rw [Int.toNat_natCast, decide_eq_true (show 0 ≤ (k : Int) ∧ (k : Int) < P by omega), decide_eq_true hn, hx, ha]
  dsimp only
  rw [hy, hb]
  rfl
/-- what is checked is a right tree of so many splits -/
theorem checks_tree {P : Nat} {hf : Nat → Bool} {cl : List (Nat → Bool)} {sp : List Sp3} : ∀ (f : Nat) (g : Int) (kn : List Int) (n : Nat), checks P hf cl sp f g kn = some n → (treeOf sp f g).ok P hf cl kn = true ∧ (treeOf sp f g).size = n := by
  intro f
  induction f with
  | zero => intro g kn n h; cases h
  | succ f ih =>
    intro g kn n h
    by_cases hg : g < 0
    · unfold checks at h
      rw [if_pos hg] at h
      split at h
      · rename_i hc
        cases h
        unfold treeOf
        rw [if_pos hg, PT.ok, hc, decide_eq_true hg]
        exact ⟨rfl, rfl⟩
      · cases h
    · obtain ⟨k, x, y, a, b, hs, hk, hn, _, _, ha, hb, rfl⟩ := checks_node (by omega) h
      obtain ⟨a1, a2⟩ := ih _ _ _ ha
      obtain ⟨b1, b2⟩ := ih _ _ _ hb
      unfold treeOf
      rw [if_neg hg, hs]
      dsimp only
      rw [Int.toNat_natCast, PT.ok, decide_eq_true hk, decide_eq_true hn, a1, b1, PT.size, a2, b2]
      exact ⟨rfl, rfl⟩
theorem nextOk_iff {n : Nat} {g x : Int} : nextOk n g x = true ↔ x < 0 ∨ (g < x ∧ x < n) := by unfold nextOk; simp
/-- enough fuel is enough -/
theorem checks_fuel {P : Nat} {hf : Nat → Bool} {cl : List (Nat → Bool)} {sp : List Sp3} : ∀ (f f' : Nat) (g : Int) (kn : List Int), (g < 0 → 1 ≤ f ∧ 1 ≤ f') → (0 ≤ g → g < sp.length → sp.length - g.toNat < f ∧ sp.length - g.toNat < f') → g < sp.length → checks P hf cl sp f g kn = checks P hf cl sp f' g kn := by
  intro f
  induction f with
  | zero =>
    intro f' g kn h1 h2 hg
    by_cases hn : g < 0
    · have := h1 hn; omega
    · have := h2 (by omega) hg; omega
  | succ f ih =>
    intro f' g kn h1 h2 hg
    cases f' with
    | zero =>
      by_cases hn : g < 0
      · have := h1 hn; omega
      · have := h2 (by omega) hg; omega
    | succ f' =>
      by_cases hn : g < 0
      · unfold checks; rw [if_pos hn, if_pos hn]
      · have hh := h2 (by omega) hg
        have key : ∀ x kn', nextOk sp.length g x = true → checks P hf cl sp f x kn' = checks P hf cl sp f' x kn' := fun x kn' hx => by
          rcases nextOk_iff.1 hx with h | ⟨h, h'⟩
          · exact ih f' x kn' (fun _ => by omega) (fun h0 => by omega) (by omega)
          · exact ih f' x kn' (fun _ => by omega) (fun _ _ => by omega) h'
        unfold checks
        rw [if_neg hn, if_neg hn]
        generalize sp.getD g.toNat sp0 = s at *
        split
        · split
          · rename_i hx
            rw [key _ _ hx]
            split
            · rfl
            · split
              · rename_i hy
                rw [key _ _ hy]
              · rfl
          · rfl
        · rfl
/-! ### splits in order -/
def PT.tight : PT → Bool
  | .leaf g => decide (g < 0)
  | .node _ a b => a.tight && b.tight
theorem PT.ok_tight {P : Nat} {hf : Nat → Bool} {cl : List (Nat → Bool)} : ∀ (t : PT) (kn : List Int), t.ok P hf cl kn = true → t.tight = true
  | .leaf g, kn, h => by rw [PT.ok, Bool.and_eq_true] at h; exact h.1
  | .node k a b, kn, h => by
    rw [PT.ok, Bool.and_eq_true, Bool.and_eq_true, Bool.and_eq_true] at h
    rw [PT.tight, PT.ok_tight a _ h.2.2.1, PT.ok_tight b _ h.2.2.2]; rfl
theorem PT.tgt_range {t : PT} (h : t.tight = true) (n : Nat) : t.tgt n < 0 ∧ t.size = 0 ∨ t.tgt n = n ∧ 1 ≤ t.size := by
  cases t with
  | leaf g => exact .inl ⟨of_decide_eq_true h, rfl⟩
  | node k a b => exact .inr ⟨rfl, by simp [PT.size]; omega⟩
/-- the splits of a right tree are right -/
theorem PT.flat_checks {P : Nat} {hf : Nat → Bool} {cl : List (Nat → Bool)} : ∀ (t : PT) (kn : List Int) (pre post : List Sp3) (f : Nat), t.ok P hf cl kn = true → t.size < f → checks P hf cl (pre ++ t.flat pre.length ++ post) f (t.tgt pre.length) kn = some t.size
  | .leaf g, kn, pre, post, f, h, hf' => by
    obtain ⟨f, rfl⟩ : ∃ f', f = f' + 1 := ⟨f - 1, by omega⟩
    rw [PT.ok, Bool.and_eq_true, decide_eq_true_eq] at h
    unfold checks
    show (if g < 0 then (if closeB P hf cl g kn = true then some 0 else none) else _) = _
    rw [if_pos h.1, if_pos h.2]; rfl
  | .node k a b, kn, pre, post, f, h, hf' => by
    obtain ⟨f, rfl⟩ : ∃ f', f = f' + 1 := ⟨f - 1, by omega⟩
    rw [PT.ok, Bool.and_eq_true, Bool.and_eq_true, Bool.and_eq_true, decide_eq_true_eq, decide_eq_true_eq] at h
    obtain ⟨hk, hn, h1, h2⟩ := h
    have hsz : (PT.node k a b).size = 1 + a.size + b.size := rfl
    have hla := PT.flat_len a (pre.length + 1)
    have hlb := PT.flat_len b (pre.length + 1 + a.size)
    have hlen : (pre ++ (PT.node k a b).flat pre.length ++ post).length = pre.length + (1 + a.size + b.size) + post.length := by
      rw [List.length_append, List.length_append, PT.flat_len, hsz]
    have e1 : pre ++ (PT.node k a b).flat pre.length ++ post = (pre ++ [((k : Int), a.tgt (pre.length + 1), b.tgt (pre.length + 1 + a.size))]) ++ a.flat (pre.length + 1) ++ (b.flat (pre.length + 1 + a.size) ++ post) := by
      simp [PT.flat]
    have e2 : pre ++ (PT.node k a b).flat pre.length ++ post = (pre ++ [((k : Int), a.tgt (pre.length + 1), b.tgt (pre.length + 1 + a.size))] ++ a.flat (pre.length + 1)) ++ b.flat (pre.length + 1 + a.size) ++ post := by
      simp [PT.flat]
    have l1 : (pre ++ [((k : Int), a.tgt (pre.length + 1), b.tgt (pre.length + 1 + a.size))]).length = pre.length + 1 := by simp
    have l2 : (pre ++ [((k : Int), a.tgt (pre.length + 1), b.tgt (pre.length + 1 + a.size))] ++ a.flat (pre.length + 1)).length = pre.length + 1 + a.size := by rw [List.length_append, l1, hla]
    have ca := PT.flat_checks a (kn.set k 0) (pre ++ [((k : Int), a.tgt (pre.length + 1), b.tgt (pre.length + 1 + a.size))]) (b.flat (pre.length + 1 + a.size) ++ post) f h1 (by omega)
    have cb := PT.flat_checks b (kn.set k 1) (pre ++ [((k : Int), a.tgt (pre.length + 1), b.tgt (pre.length + 1 + a.size))] ++ a.flat (pre.length + 1)) post f h2 (by omega)
    rw [l1, ← e1] at ca
    rw [l2, ← e2] at cb
    have hget : (pre ++ (PT.node k a b).flat pre.length ++ post).getD pre.length sp0 = ((k : Int), a.tgt (pre.length + 1), b.tgt (pre.length + 1 + a.size)) := by
      simp [PT.flat, List.getD]
    have ta := PT.tgt_range (PT.ok_tight a _ h1) (pre.length + 1)
    have tb := PT.tgt_range (PT.ok_tight b _ h2) (pre.length + 1 + a.size)
    refine checks_of (by show (0 : Int) ≤ (pre.length : Int); omega) (by rw [show ((PT.node k a b).tgt pre.length).toNat = pre.length from Int.toNat_natCast _]; exact hget) hk hn ?_ ?_ ca cb
    · rw [nextOk_iff, hlen]
      show _ ∨ ((pre.length : Int) < _ ∧ _)
      omega
    · rw [nextOk_iff, hlen]
      show _ ∨ ((pre.length : Int) < _ ∧ _)
      omega
/-- the places that splits go on to -/
def nexts (sp : List Sp3) : List Int := sp.flatMap fun s => [s.2.1, s.2.2].filter fun x => decide (0 ≤ x)
def onceB (sp : List Sp3) : Bool := (nexts sp).all (fun x => decide (x < sp.length)) && decide (nexts sp).Nodup
theorem nexts_append (a b : List Sp3) : nexts (a ++ b) = nexts a ++ nexts b := by simp [nexts]
theorem PT.flat_nexts : ∀ (t : PT) (n : Nat), t.tight = true → (∀ x ∈ nexts (t.flat n), (n : Int) < x ∧ x < n + t.size) ∧ (nexts (t.flat n)).Nodup
  | .leaf _, n, _ => ⟨fun x hx => by simp [PT.flat, nexts] at hx, List.nodup_nil⟩
  | .node k a b, n, h => by
    rw [PT.tight, Bool.and_eq_true] at h
    obtain ⟨a1, a2⟩ := PT.flat_nexts a (n + 1) h.1
    obtain ⟨b1, b2⟩ := PT.flat_nexts b (n + 1 + a.size) h.2
    have ta := PT.tgt_range h.1 (n + 1)
    have tb := PT.tgt_range h.2 (n + 1 + a.size)
    have hsz : (PT.node k a b).size = 1 + a.size + b.size := rfl
    have e : nexts ((PT.node k a b).flat n) = ([a.tgt (n + 1), b.tgt (n + 1 + a.size)].filter fun x => decide (0 ≤ x)) ++ (nexts (a.flat (n + 1)) ++ nexts (b.flat (n + 1 + a.size))) := by
      rw [← nexts_append]; rfl
    have hh : ∀ x ∈ ([a.tgt (n + 1), b.tgt (n + 1 + a.size)].filter fun x => decide (0 ≤ x)), (x = n + 1 ∧ 1 ≤ a.size) ∨ (x = n + 1 + a.size ∧ 1 ≤ b.size) := by
      intro x hx
      rw [List.mem_filter, decide_eq_true_eq] at hx
      obtain ⟨h1, h2⟩ := hx
      rcases List.mem_cons.1 h1 with rfl | h1
      · left; omega
      · rw [List.mem_singleton] at h1; subst h1; right; omega
    have hn : ([a.tgt (n + 1), b.tgt (n + 1 + a.size)].filter fun x => decide (0 ≤ x)).Nodup := by
      by_cases he : a.tgt (n + 1) = b.tgt (n + 1 + a.size)
      · have h1 : a.tgt (n + 1) < 0 := by omega
        have h2 : b.tgt (n + 1 + a.size) < 0 := by omega
        rw [List.filter_cons, if_neg (by rw [decide_eq_true_eq]; omega), List.filter_cons, if_neg (by rw [decide_eq_true_eq]; omega)]
        exact List.nodup_nil
      · refine List.Pairwise.filter _ ?_
        simp [he]
    rw [e, hsz]
    refine ⟨fun x hx => ?_, ?_⟩
    · rcases List.mem_append.1 hx with hx | hx
      · have := hh x hx; omega
      · rcases List.mem_append.1 hx with hx | hx
        · have := a1 x hx; omega
        · have := b1 x hx; omega
    · rw [List.nodup_append]
      refine ⟨hn, ?_, fun x hx y hy hxy => ?_⟩
      · rw [List.nodup_append]
        exact ⟨a2, b2, fun x hx y hy hxy => by have := a1 x hx; have := b1 y hy; omega⟩
      · subst hxy
        have := hh x hx
        rcases List.mem_append.1 hy with hy | hy
        · have := a1 x hy; omega
        · have := b1 x hy; omega
end Go.Proofs.YtefmoljipbbmmaaDoor
