/- Stories with one answer: the mathematics, without code. -/
import Derived.Test.YtobbbmcppmohoaaClaimM
namespace Go.Proofs.Ytobbbmcppmohoaa
open Go.RowKit
/-- the worlds of a story -/
def swl (p : Int) (s : List Cl) : List Nat := wlp p (storyV p s)
def clashV (p : Int) (s : List Cl) : Bool := storyOk p s && decide (storyN p s = 0)
def onlyOk (p : Int) (s : List Cl) : Bool := decide ((swl p s).length = 1)
def onlyN (p : Int) (s : List Cl) : Int := if (swl p s).length = 1 then ((swl p s).getD 0 0 : Int) else -1
/-- in how many of some worlds a person tells the truth -/
def cntK (l : List Nat) (k : Nat) : Nat := l.countP fun x => x.testBit k
def knownK (l : List Nat) (k : Nat) : Int := if cntK l k = 0 then 0 else if cntK l k = l.length then 1 else -1
def knownF (p : Int) (l : List Nat) : List Int := if l = [] then [] else (List.range p.toNat).map (knownK l)
def knownL (p : Int) (s : List Cl) : List Int := knownF p (swl p s)
/-- a list without the element at a place -/
def woL {α : Type} (s : List α) (k : Nat) : List α := s.take k ++ s.drop (k + 1)
def needB (p : Int) (s : List Cl) (k : Nat) : Bool := decide (storyN p (woL s k) = storyN p s)
def needF (p : Int) (s : List Cl) (n : Nat) : List Nat := (List.range n).filter (needB p s)
def needL (p : Int) (s : List Cl) : List Nat := if storyOk p s then needF p s s.length else []
/-- what is left of a list, of which the first part stays, if each further element is left out where N is the same without it -/
def leastR {α : Type} (N : List α → Nat) (d : List α) : List α → List α
  | [] => d
  | c :: r => if N (d ++ r) = N (d ++ c :: r) then leastR N d r else leastR N (d ++ [c]) r
def leastV (p : Int) (s : List Cl) : List Cl := if storyOk p s then leastR (storyN p) [] s else []
/-! ### worlds of stories -/
theorem swl_no {p : Int} {s : List Cl} (h : storyOk p s = false) : swl p s = [] := by
  unfold swl
  rw [storyV_no h]
  refine wlp_no ?_
  cases ht : tOk p (-1) with
  | false => rfl
  | true => have := (tOk_iff.1 ht).2.2.1; omega
theorem story_tOk {p : Int} {s : List Cl} (h : storyOk p s = true) : tOk p (storyN p s) = true := by
  obtain ⟨_, hp, _⟩ := storyOk_iff.1 h
  obtain ⟨h1, h4⟩ : 1 ≤ p ∧ p ≤ 4 := by simpa [pOk] using hp
  refine tOk_iff.2 ⟨h1, h4, by omega, ?_⟩
  have := tabF_lt (2 ^ p.toNat) (storyT p s)
  exact_mod_cast this
theorem swl_yes {p : Int} {s : List Cl} (h : storyOk p s = true) : swl p s = wl (storyN p s) (2 ^ p.toNat) := by
  unfold swl
  rw [storyV_yes h, wlp_yes (story_tOk h), Int.toNat_natCast]
theorem swl_mem {p : Int} {s : List Cl} (h : storyOk p s = true) {x : Nat} : x ∈ swl p s ↔ x < 2 ^ p.toNat ∧ storyT p s x = true := by
  rw [swl_yes h, wl_mem]
  unfold storyN
  rw [tabF_bit]
  constructor
  · rintro ⟨h1, h2⟩; exact ⟨h1, by simpa [h1] using h2⟩
  · rintro ⟨h1, h2⟩; exact ⟨h1, by simp [h1, h2]⟩
theorem storyN_zero {p : Int} {s : List Cl} : storyN p s = 0 ↔ ∀ x, x < 2 ^ p.toNat → storyT p s x = false := by
  unfold storyN
  constructor
  · intro h x hx
    have := congrArg (fun n => n.testBit x) h
    simpa [tabF_bit, hx] using this
  · intro h
    refine Nat.eq_of_testBit_eq fun j => ?_
    rw [tabF_bit, Nat.zero_testBit]
    by_cases hj : j < 2 ^ p.toNat
    · simp [hj, h j hj]
    · simp [hj]
theorem swl_nil {p : Int} {s : List Cl} (h : storyOk p s = true) : swl p s = [] ↔ storyN p s = 0 := by
  rw [storyN_zero, List.eq_nil_iff_forall_not_mem]
  constructor
  · intro hn x hx
    cases ht : storyT p s x with
    | false => rfl
    | true => exact absurd ((swl_mem h).2 ⟨hx, ht⟩) (hn x)
  · intro hz x hx
    obtain ⟨h1, h2⟩ := (swl_mem h).1 hx
    rw [hz x h1] at h2; cases h2
theorem swl_lt {p : Int} {s : List Cl} {x : Nat} (h : x ∈ swl p s) : storyOk p s = true ∧ x < 2 ^ p.toNat ∧ storyT p s x = true := by
  cases hs : storyOk p s with
  | false => rw [swl_no hs] at h; cases h
  | true => exact ⟨rfl, (swl_mem hs).1 h⟩
theorem swl_nodup (p : Int) (s : List Cl) : (swl p s).Nodup := by
  cases hs : storyOk p s with
  | false => rw [swl_no hs]; exact List.nodup_nil
  | true => rw [swl_yes hs]; unfold wl; exact List.nodup_range.filter _
theorem swl_len (p : Int) (s : List Cl) : (swl p s).length ≤ 16 := by
  cases hs : storyOk p s with
  | false => rw [swl_no hs]; simp
  | true =>
    obtain ⟨_, hp, _⟩ := storyOk_iff.1 hs
    obtain ⟨h1, h4⟩ : 1 ≤ p ∧ p ≤ 4 := by simpa [pOk] using hp
    rw [swl_yes hs]
    have h3 : 2 ^ p.toNat ≤ 16 := two16 (by omega)
    have := wl_le (storyN p s) (2 ^ p.toNat)
    omega
/-! ### clashes -/
theorem clash_snoc {p : Int} {s : List Cl} {c : Cl} (h : storyOk p s = true) (h' : storyOk p (s ++ [c]) = true) (hc : clashV p s = true) : clashV p (s ++ [c]) = true := by
  unfold clashV at hc ⊢
  rw [h] at hc
  rw [h', storyN_snoc]
  simp at hc ⊢
  rw [hc]; simp
theorem clash_liar {p : Int} {s : List Cl} (h' : storyOk p (s ++ [(0, [(0, 0), (2, 0)])]) = true) : clashV p (s ++ [(0, [(0, 0), (2, 0)])]) = true := by
  have hc : claimOk p (0, [(0, 0), (2, 0)]) = true := (storyOk_iff.1 h').1 _ (by simp)
  obtain ⟨h1, h2, h3, _⟩ := claimOk_iff.1 hc
  dsimp only at h1 h2 h3
  have hp := p_of h3
  have hok : (Tm.un (.leaf 0 0)).ok p := by simp only [Tm.ok]; exact .inl ⟨by trivial, h1, h2⟩
  have ht : tmOf p [(0, 0), (2, 0)] = .un (.leaf 0 0) := tmOf_post (t := .un (.leaf 0 0)) hok
  unfold clashV
  rw [h', Bool.true_and, decide_eq_true_eq, storyN_zero]
  intro x _
  rw [storyT_snoc]
  have hm : mayT p (0, [(0, 0), (2, 0)]) x = false := by
    unfold mayT
    dsimp only
    rw [ht, holds_un, holds, if_pos rfl]
    cases x.testBit (Int.toNat 0) <;> rfl
  rw [hm, Bool.and_false]
theorem clash_again {p : Int} {s : List Cl} {c : Cl} (hc : c ∈ s) (h : storyOk p s = true) (h' : storyOk p (s ++ [c]) = true) : clashV p (s ++ [c]) = clashV p s := by
  unfold clashV
  rw [h, h', storyN_ext (s := s ++ [c]) (r := s) (fun d => by simp; intro e; subst e; exact hc)]
theorem clash_nil (p : Int) : clashV p [] = false := by
  unfold clashV
  cases h : storyOk p [] with
  | false => rfl
  | true =>
    rw [storyN_nil, Bool.true_and, decide_eq_false_iff_not]
    have : 2 ^ 1 ≤ 2 ^ (2 ^ p.toNat) := Nat.pow_le_pow_right (by decide) (Nat.two_pow_pos _)
    omega
theorem clash_no {p : Int} {s : List Cl} (h : storyOk p s = false) : clashV p s = false := by simp [clashV, h]
/-! ### known people -/
theorem cntK_le (l : List Nat) (k : Nat) : cntK l k ≤ l.length := List.countP_le_length
theorem cntK_zero {l : List Nat} {k : Nat} : cntK l k = 0 ↔ ∀ x ∈ l, x.testBit k = false := by simp [cntK]
theorem cntK_all {l : List Nat} {k : Nat} : cntK l k = l.length ↔ ∀ x ∈ l, x.testBit k = true := by unfold cntK; rw [List.countP_eq_length]
theorem known_one {l : List Nat} {k : Nat} (hl : l ≠ []) : knownK l k = 1 ↔ ∀ x ∈ l, x.testBit k = true := by
  unfold knownK
  have hl' : 0 < l.length := List.length_pos_iff.2 hl
  rw [← cntK_all]
  split
  · exact ⟨fun h => by simp at h, fun h => by omega⟩
  · split
    · rename_i h; exact ⟨fun _ => h, fun _ => rfl⟩
    · rename_i h; exact ⟨fun h' => by simp at h', fun h' => absurd h' h⟩
theorem known_zero {l : List Nat} {k : Nat} : knownK l k = 0 ↔ ∀ x ∈ l, x.testBit k = false := by
  unfold knownK
  rw [← cntK_zero]
  split
  · rename_i h; exact ⟨fun _ => h, fun _ => rfl⟩
  · rename_i h
    split
    · exact ⟨fun h' => by simp at h', fun h' => absurd h' h⟩
    · exact ⟨fun h' => by simp at h', fun h' => absurd h' h⟩
theorem known_cases (l : List Nat) (k : Nat) : knownK l k = 0 ∨ knownK l k = 1 ∨ knownK l k = -1 := by
  unfold knownK
  split
  · exact .inl rfl
  · split
    · exact .inr (.inl rfl)
    · exact .inr (.inr rfl)
theorem known_not {l : List Nat} {k : Nat} (hl : l ≠ []) (h : knownK l k = -1) : (∃ x ∈ l, x.testBit k = true) ∧ ∃ x ∈ l, x.testBit k = false := by
  have h0 : ¬ ∀ x ∈ l, x.testBit k = false := fun hh => by rw [known_zero.2 hh] at h; cases h
  have h1 : ¬ ∀ x ∈ l, x.testBit k = true := fun hh => by rw [(known_one hl).2 hh] at h; cases h
  refine ⟨?_, ?_⟩
  · refine Classical.byContradiction fun hn => h0 fun x hx => ?_
    cases hb : x.testBit k with
    | false => rfl
    | true => exact absurd ⟨x, hx, hb⟩ hn
  · refine Classical.byContradiction fun hn => h1 fun x hx => ?_
    cases hb : x.testBit k with
    | true => rfl
    | false => exact absurd ⟨x, hx, hb⟩ hn
theorem knownL_len {p : Int} {l : List Nat} : (knownF p l).length = if l = [] then 0 else p.toNat := by
  unfold knownF
  split <;> simp
theorem knownL_get {p : Int} {l : List Nat} {k : Nat} (hl : l ≠ []) (hk : k < p.toNat) : (knownF p l).getD k 0 = knownK l k := by
  unfold knownF
  rw [if_neg hl]
  simp [List.getD, hk]
theorem bits_differ {x y P : Nat} (hx : x < 2 ^ P) (hy : y < 2 ^ P) (h : x ≠ y) : ∃ k, k < P ∧ x.testBit k ≠ y.testBit k := by
  refine Classical.byContradiction fun hn => h (bit_ext hx hy fun j hj => ?_)
  refine Classical.byContradiction fun hne => hn ⟨j, hj, hne⟩
/-- there is one world alone just if something is known of everybody -/
theorem only_iff {p : Int} {s : List Cl} (hs : swl p s ≠ []) : (swl p s).length = 1 ↔ ∀ k, k < p.toNat → knownK (swl p s) k ≠ -1 := by
  constructor
  · intro h k _ hk
    obtain ⟨⟨x, hx, hx1⟩, y, hy, hy1⟩ := known_not hs hk
    match hm : swl p s, h with
    | [z], _ =>
      rw [hm] at hx hy
      simp at hx hy
      subst hx; subst hy
      rw [hx1] at hy1; cases hy1
  · intro h
    match hm : swl p s with
    | [] => exact absurd hm hs
    | [z] => rfl
    | x :: y :: r =>
      exfalso
      have hnd := swl_nodup p s
      rw [hm] at hnd
      have hne : x ≠ y := by intro e; subst e; simp at hnd
      have hx := swl_lt (p := p) (s := s) (x := x) (by rw [hm]; simp)
      have hy := swl_lt (p := p) (s := s) (x := y) (by rw [hm]; simp)
      obtain ⟨k, hk, hb⟩ := bits_differ hx.2.1 hy.2.1 hne
      refine h k hk ?_
      rw [hm]
      rcases known_cases (x :: y :: r) k with h0 | h1 | h2
      · have := known_zero.1 h0
        exact absurd ((this x (by simp)).trans (this y (by simp)).symm) hb
      · have := (known_one (by simp)).1 h1
        exact absurd ((this x (by simp)).trans (this y (by simp)).symm) hb
      · exact h2
theorem only_known {p : Int} {s : List Cl} {z : Nat} (h : swl p s = [z]) (k : Nat) : knownK (swl p s) k = if z.testBit k then 1 else 0 := by
  rw [h]
  cases hb : z.testBit k with
  | true => exact (known_one (by simp)).2 (by simpa using hb)
  | false => exact known_zero.2 (by simpa using hb)
theorem only_may {p : Int} {s : List Cl} {z : Nat} (h : swl p s = [z]) {W : Nat} (hW : W < 2 ^ p.toNat) : storyT p s W = decide (W = z) := by
  have hz := swl_lt (p := p) (s := s) (x := z) (by rw [h]; simp)
  have := swl_mem hz.1 (x := W)
  rw [h] at this
  simp [hW] at this
  rw [Bool.eq_iff_iff, decide_eq_true_eq]
  exact this.symm
theorem known_more {l l' : List Nat} {k : Nat} (hsub : ∀ x ∈ l', x ∈ l) (hl' : l' ≠ []) (h : knownK l k ≠ -1) : knownK l' k = knownK l k := by
  have hl : l ≠ [] := by
    intro e; subst e
    obtain ⟨x, hx⟩ := List.exists_mem_of_ne_nil _ hl'
    cases hsub x hx
  rcases known_cases l k with h0 | h1 | h2
  · rw [h0]; exact known_zero.2 fun x hx => known_zero.1 h0 x (hsub x hx)
  · rw [h1]; exact (known_one hl').2 fun x hx => (known_one hl).1 h1 x (hsub x hx)
  · exact absurd h2 h
theorem swl_snoc {p : Int} {s : List Cl} {c : Cl} (h : storyOk p s = true) : ∀ x ∈ swl p (s ++ [c]), x ∈ swl p s := by
  intro x hx
  obtain ⟨h1, h2, h3⟩ := swl_lt hx
  rw [storyT_snoc] at h3
  simp at h3
  exact (swl_mem h).2 ⟨h2, h3.1⟩
/-! ### needless claims -/
theorem woL_len {α : Type} {s : List α} {k : Nat} (hk : k < s.length) : (woL s k).length = s.length - 1 := by simp [woL]; omega
theorem woL_mem {α : Type} {s : List α} {k : Nat} {c : α} (h : c ∈ woL s k) : c ∈ s := by
  rcases List.mem_append.1 h with h | h
  · exact List.mem_of_mem_take h
  · exact List.mem_of_mem_drop h
theorem woL_map {α β : Type} (f : α → β) (s : List α) (k : Nat) : (woL s k).map f = woL (s.map f) k := by simp [woL]
theorem woL_ok {p : Int} {s : List Cl} {k : Nat} (h : storyOk p s = true) : storyOk p (woL s k) = true :=
  storyOk_sub h (by simp [woL]; omega) (fun _ hc => woL_mem hc)
theorem storyT_wo {p : Int} {s : List Cl} {k : Nat} (hk : k < s.length) (W : Nat) : storyT p s W = (storyT p (woL s k) W && mayT p (s[k]) W) := by
  have e : s = s.take k ++ s[k] :: s.drop (k + 1) := by simp
  have h1 : storyT p s W = storyT p (s.take k ++ s[k] :: s.drop (k + 1)) W := by rw [← e]
  rw [h1]
  unfold storyT woL
  simp only [List.all_append, List.all_cons]
  cases (s.take k).all (fun c => mayT p c W) <;> cases mayT p s[k] W <;> simp
theorem need_iff {p : Int} {s : List Cl} {k : Nat} : needB p s k = true ↔ ∀ W, W < 2 ^ p.toNat → storyT p (woL s k) W = storyT p s W := by
  unfold needB storyN
  rw [decide_eq_true_eq, tabF_ext]
theorem needL_no {p : Int} {s : List Cl} (h : storyOk p s = false) : needL p s = [] := by simp [needL, h]
theorem needL_yes {p : Int} {s : List Cl} (h : storyOk p s = true) : needL p s = needF p s s.length := by simp [needL, h]
theorem needF_succ (p : Int) (s : List Cl) (n : Nat) : needF p s (n + 1) = needF p s n ++ if needB p s n then [n] else [] := by
  unfold needF; rw [List.range_succ, List.filter_append]; simp [List.filter_cons]
theorem needF_mem {p : Int} {s : List Cl} {n k : Nat} : k ∈ needF p s n ↔ k < n ∧ needB p s k = true := by simp [needF]
theorem needF_len (p : Int) (s : List Cl) (n : Nat) : (needF p s n).length ≤ n := by
  unfold needF; have := List.length_filter_le (needB p s) (List.range n); simpa using this
theorem need_twice {p : Int} {s : List Cl} (hs : 0 < s.length) : needB p (s ++ [s[0]]) 0 = true ∧ needB p (s ++ [s[0]]) s.length = true := by
  match s, hs with
  | c :: r, _ =>
    refine ⟨?_, ?_⟩
    · unfold needB
      rw [decide_eq_true_eq]
      exact storyN_ext fun d => by simp [woL]; exact fun e => .inr e
    · unfold needB
      rw [decide_eq_true_eq]
      exact storyN_ext fun d => by
        simp [woL]
        constructor
        · rintro (h | h)
          · exact .inl h
          · exact .inr (.inl h)
        · rintro (h | h | h)
          · exact .inl h
          · exact .inr h
          · exact .inl h
theorem wl_asc (T n : Nat) : ∀ j, j + 1 < (wl T n).length → (wl T n).getD j 0 < (wl T n).getD (j + 1) 0 := by
  intro j hj
  have h : (wl T n).Pairwise (· < ·) := List.pairwise_lt_range.filter _
  have := List.pairwise_iff_getElem.1 h j (j + 1) (by omega) hj (by omega)
  simpa [List.getD, hj, show j < (wl T n).length by omega] using this
theorem needF_asc (p : Int) (s : List Cl) (n : Nat) : ∀ j, j + 1 < (needF p s n).length → (needF p s n).getD j 0 < (needF p s n).getD (j + 1) 0 := by
  intro j hj
  have h : (needF p s n).Pairwise (· < ·) := List.pairwise_lt_range.filter _
  have := List.pairwise_iff_getElem.1 h j (j + 1) (by omega) hj (by omega)
  simpa [List.getD, hj, show j < (needF p s n).length by omega] using this
/-! ### least stories -/
theorem least_map {α β : Type} (f : α → β) (N : List β → Nat) (r : List α) : ∀ d : List α, (leastR (fun l => N (l.map f)) d r).map f = leastR N (d.map f) (r.map f) := by
  induction r with
  | nil => intro d; rfl
  | cons c r ih =>
    intro d
    simp only [leastR, List.map_cons, List.map_append]
    split
    · exact ih d
    · rw [ih (d ++ [c])]; simp
theorem least_same {α : Type} (N : List α → Nat) (r : List α) : ∀ d, N (leastR N d r) = N (d ++ r) := by
  induction r with
  | nil => intro d; simp [leastR]
  | cons c r ih =>
    intro d
    simp only [leastR]
    split
    · rename_i h; rw [ih d, h]
    · rw [ih (d ++ [c])]; simp
theorem least_sub {α : Type} (N : List α → Nat) (r : List α) : ∀ d, (leastR N d r).Sublist (d ++ r) := by
  induction r with
  | nil => intro d; simp [leastR]
  | cons c r ih =>
    intro d
    simp only [leastR]
    split
    · exact (ih d).trans (List.Sublist.append_left (List.sublist_cons_self c r) d)
    · have := ih (d ++ [c]); simpa using this
theorem storyT_sub {p : Int} {s r : List Cl} (h : ∀ c ∈ r, c ∈ s) {W : Nat} (hs : storyT p s W = true) : storyT p r W = true := by
  unfold storyT at hs ⊢
  rw [List.all_eq_true] at hs ⊢
  exact fun c hc => hs c (h c hc)
/-- no claim of the first n ones is needless -/
def Crit (p : Int) (s : List Cl) (n : Nat) : Prop := ∀ i, i < n → ∃ W, W < 2 ^ p.toNat ∧ storyT p (woL s i) W = true ∧ storyT p s W = false
theorem crit_need {p : Int} {s : List Cl} {n : Nat} (h : Crit p s n) {i : Nat} (hi : i < n) : needB p s i = false := by
  cases hb : needB p s i with
  | false => rfl
  | true =>
    obtain ⟨W, hW, h1, h2⟩ := h i hi
    rw [need_iff.1 hb W hW, h2] at h1; cases h1
theorem need_crit {p : Int} {s : List Cl} {i : Nat} (hi : i < s.length) (h : needB p s i = false) : ∃ W, W < 2 ^ p.toNat ∧ storyT p (woL s i) W = true ∧ storyT p s W = false := by
  refine Classical.byContradiction fun hn => ?_
  have : needB p s i = true := need_iff.2 fun W hW => by
    cases h1 : storyT p (woL s i) W with
    | true =>
      cases h2 : storyT p s W with
      | true => rfl
      | false => exact absurd ⟨W, hW, h1, h2⟩ hn
    | false => rw [storyT_wo hi, h1, Bool.false_and]
  rw [h] at this; cases this
theorem least_crit {p : Int} (r : List Cl) : ∀ d, Crit p (d ++ r) d.length → Crit p (leastR (storyN p) d r) (leastR (storyN p) d r).length := by
  induction r with
  | nil => intro d h; simpa [leastR] using h
  | cons c r ih =>
    intro d h
    have hwo : woL (d ++ c :: r) d.length = d ++ r := by simp [woL]
    simp only [leastR]
    split
    · rename_i he
      refine ih d fun i hi => ?_
      obtain ⟨W, hW, h1, h2⟩ := h i hi
      have hn : needB p (d ++ c :: r) d.length = true := by unfold needB; rw [hwo, decide_eq_true_eq]; exact he
      have hs := need_iff.1 hn W hW
      rw [hwo] at hs
      refine ⟨W, hW, storyT_sub (fun e hm => ?_) h1, by rw [hs, h2]⟩
      unfold woL at hm ⊢
      rw [List.take_append_of_le_length (by omega), List.drop_append_of_le_length (by omega)] at hm
      rw [List.take_append_of_le_length (by omega), List.drop_append_of_le_length (by omega)]
      simp only [List.mem_append, List.mem_cons] at hm ⊢
      rcases hm with hm | hm | hm
      · exact .inl hm
      · exact .inr (.inl hm)
      · exact .inr (.inr (.inr hm))
    · rename_i he
      have e : d ++ c :: r = (d ++ [c]) ++ r := by simp
      rw [e] at h hwo
      refine ih (d ++ [c]) fun i hi => ?_
      rw [List.length_append, List.length_singleton] at hi
      by_cases hid : i < d.length
      · exact h i hid
      · obtain rfl : i = d.length := by omega
        refine need_crit (by simp) ?_
        unfold needB
        rw [hwo, decide_eq_false_iff_not]
        simpa using he
theorem least_stays {p : Int} (r : List Cl) : ∀ d, (∀ i, d.length ≤ i → i < (d ++ r).length → needB p (d ++ r) i = false) → leastR (storyN p) d r = d ++ r := by
  induction r with
  | nil => intro d _; simp [leastR]
  | cons c r ih =>
    intro d h
    have hwo : woL (d ++ c :: r) d.length = d ++ r := by simp [woL]
    have hn := h d.length (Nat.le_refl _) (by simp)
    unfold needB at hn
    rw [hwo, decide_eq_false_iff_not] at hn
    simp only [leastR]
    rw [if_neg hn, ih (d ++ [c]) (fun i h1 h2 => by
      have := h i (by simp at h1; omega) (by simpa using h2)
      simpa using this)]
    simp
theorem leastV_no {p : Int} {s : List Cl} (h : storyOk p s = false) : leastV p s = [] := by simp [leastV, h]
theorem leastV_yes {p : Int} {s : List Cl} (h : storyOk p s = true) : leastV p s = leastR (storyN p) [] s := by simp [leastV, h]
/-- what is left of a story is one with the same worlds, of which nothing is needless, and which stays -/
theorem least_all {p : Int} {s : List Cl} (h : storyOk p s = true) : storyOk p (leastV p s) = true ∧ storyN p (leastV p s) = storyN p s ∧ needL p (leastV p s) = [] ∧ leastV p (leastV p s) = leastV p s := by
  rw [leastV_yes h]
  have hsub := least_sub (storyN p) s []
  rw [List.nil_append] at hsub
  have hok : storyOk p (leastR (storyN p) [] s) = true := storyOk_sub h hsub.length_le (fun c hc => hsub.subset hc)
  have hcr := least_crit (p := p) s [] (fun i hi => by simp at hi)
  refine ⟨hok, by rw [least_same (storyN p)]; simp, ?_, ?_⟩
  · rw [needL_yes hok, List.eq_nil_iff_forall_not_mem]
    intro k hk
    obtain ⟨h1, h2⟩ := needF_mem.1 hk
    rw [crit_need hcr h1] at h2; cases h2
  · rw [leastV_yes hok]
    have := least_stays (p := p) (leastR (storyN p) [] s) [] (fun i _ hi => crit_need hcr (by simpa using hi))
    simpa using this
end Go.Proofs.Ytobbbmcppmohoaa
