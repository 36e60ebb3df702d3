/- Texts of a proof, merged: SplitsE, PrfWalk, PrfCase, TruthA. -/
import Derived.Test.YtefmoljipbbmmaaDoorMerged13
import Derived.Test.YtefmoljipbbmmaaDoorMerged12
import Derived.Test.YtefmoljipbbmmaaDoorMerged17
import Derived.Test.YtefmoljipbbmmaaDoorMerged7
import Derived.Deep.RegionWith
/- Contract of the laws' comparison of proofs: two that are the same. -/
namespace Go.Proofs.YtefmoljipbbmmaaDoor
open Go.RowKit Go.Joins
end Go.Proofs.YtefmoljipbbmmaaDoor
/- Proofs by cases: a walk through the cases in which the splits that have been come to are bits of a number; without code. -/
namespace Go.Proofs.YtefmoljipbbmmaaDoor
open Go.RowKit
/-- the bits after the walk; none if a case is not right -/
def walkF (P : Nat) (hf : Nat → Bool) (cl : List (Nat → Bool)) (sp : List Sp3) : Nat → Nat → Int → Int → List Int → Option Nat
  | 0, _, _, _, _ => none
  | f + 1, m, fr, g, kn =>
    if g < 0 then (if closeB P hf cl g kn = true then some m else none)
    else if (decide (fr < g ∧ g < sp.length) && !m.testBit g.toNat) = true then
      (if (decide (0 ≤ (sp.getD g.toNat sp0).1 ∧ (sp.getD g.toNat sp0).1 < P) && decide (kn.getD (sp.getD g.toNat sp0).1.toNat 0 < 0)) = true then
        match walkF P hf cl sp f (m ||| 2 ^ g.toNat) g (sp.getD g.toNat sp0).2.1 (kn.set (sp.getD g.toNat sp0).1.toNat 0) with
        | none => none
        | some m1 => walkF P hf cl sp f m1 g (sp.getD g.toNat sp0).2.2 (kn.set (sp.getD g.toNat sp0).1.toNat 1)
      else none)
    else none
theorem walk_node {P : Nat} {hf : Nat → Bool} {cl : List (Nat → Bool)} {sp : List Sp3} {f m : Nat} {fr g : Int} {kn : List Int} {m' : Nat} (hg : 0 ≤ g) (h : walkF P hf cl sp (f + 1) m fr g kn = some m') :
    ∃ (k : Nat) (x y : Int) (m1 : Nat), sp.getD g.toNat sp0 = ((k : Int), x, y) ∧ k < P ∧ kn.getD k 0 < 0 ∧ fr < g ∧ g < sp.length ∧ m.testBit g.toNat = false ∧ walkF P hf cl sp f (m ||| 2 ^ g.toNat) g x (kn.set k 0) = some m1 ∧ walkF P hf cl sp f m1 g y (kn.set k 1) = some m' := by
  unfold walkF at h
  rw [if_neg (by omega)] at h
  generalize sp.getD g.toNat sp0 = s at *
  obtain ⟨w, x, y⟩ := s
  dsimp only at h
  split at h
  · rename_i h1
    rw [Bool.and_eq_true, decide_eq_true_eq, Bool.not_eq_true'] at h1
    split at h
    · rename_i hw
      rw [Bool.and_eq_true, decide_eq_true_eq, decide_eq_true_eq] at hw
      obtain ⟨k, rfl⟩ := Int.eq_ofNat_of_zero_le hw.1.1
      rw [Int.toNat_natCast] at h hw
      split at h
      · cases h
      · rename_i m1 ha
        exact ⟨k, x, y, m1, rfl, by omega, hw.2, h1.1.1, h1.1.2, h1.2, ha, h⟩
    · cases h
  · cases h
theorem walk_of {P : Nat} {hf : Nat → Bool} {cl : List (Nat → Bool)} {sp : List Sp3} {f m : Nat} {fr g : Int} {kn : List Int} {k : Nat} {x y : Int} {m1 : Nat} (hg : 0 ≤ g) (hs : sp.getD g.toNat sp0 = ((k : Int), x, y)) (hk : k < P) (hn : kn.getD k 0 < 0) (h1 : fr < g) (h2 : g < sp.length) (h3 : m.testBit g.toNat = false)
    (ha : walkF P hf cl sp f (m ||| 2 ^ g.toNat) g x (kn.set k 0) = some m1) : walkF P hf cl sp (f + 1) m fr g kn = walkF P hf cl sp f m1 g y (kn.set k 1) := by
  rw [walkF, if_neg (by omega), hs]
  dsimp only
  rw [Int.toNat_natCast, decide_eq_true (show fr < g ∧ g < sp.length from ⟨h1, h2⟩), h3, decide_eq_true (show 0 ≤ (k : Int) ∧ (k : Int) < P by omega), decide_eq_true hn, ha]
  rfl
/-! ### sums over the places -/
def sumN (c : Nat → Nat) : Nat → Nat
  | 0 => 0
  | n + 1 => sumN c n + c n
theorem sumN_congr {c d : Nat → Nat} : ∀ n, (∀ y, y < n → c y = d y) → sumN c n = sumN d n
  | 0, _ => rfl
  | n + 1, h => by rw [sumN, sumN, sumN_congr n (fun y hy => h y (by omega)), h n (by omega)]
theorem sumN_zero : ∀ n, sumN (fun _ => 0) n = 0
  | 0 => rfl
  | n + 1 => by rw [sumN, sumN_zero n]
theorem sumN_one : ∀ n, sumN (fun _ => 1) n = n
  | 0 => rfl
  | n + 1 => by rw [sumN, sumN_one n]
theorem sumN_le {c d : Nat → Nat} : ∀ n, (∀ y, y < n → c y ≤ d y) → sumN c n ≤ sumN d n
  | 0, _ => Nat.le_refl _
  | n + 1, h => by
    have h1 := sumN_le n (fun y hy => h y (by omega))
    have h2 := h n (by omega)
    rw [sumN, sumN]; omega
theorem sumN_add (c d : Nat → Nat) : ∀ n, sumN (fun y => c y + d y) n = sumN c n + sumN d n
  | 0 => rfl
  | n + 1 => by rw [sumN, sumN, sumN, sumN_add c d n]; omega
/-- one place more -/
theorem sumN_put {c d : Nat → Nat} {k z : Nat} (hk : d k = c k + z) (ho : ∀ y, y ≠ k → d y = c y) : ∀ n, sumN d n = sumN c n + if k < n then z else 0
  | 0 => rfl
  | n + 1 => by
    rw [sumN, sumN, sumN_put hk ho n]
    by_cases h : n = k
    · subst h; rw [hk, if_neg (by omega), if_pos (by omega)]; omega
    · rw [ho n h]
      by_cases h2 : k < n
      · rw [if_pos h2, if_pos (by omega)]; omega
      · rw [if_neg h2, if_neg (by omega)]; omega
theorem sumN_full {c : Nat → Nat} : ∀ n, (∀ y, y < n → c y ≤ 1) → sumN c n = n → ∀ y, y < n → c y = 1
  | 0, _, _, y, hy => by omega
  | n + 1, h1, h2, y, hy => by
    have h3 := sumN_le (c := c) (d := fun _ => 1) n (fun y hy => h1 y (by omega))
    rw [sumN_one] at h3
    have h4 := h1 n (by omega)
    rw [sumN] at h2
    by_cases hyn : y = n
    · subst hyn; omega
    · exact sumN_full n (fun y hy => h1 y (by omega)) (by omega) y (by omega)
theorem sumN_list {α : Type} (F : α → Nat) (d : α) : ∀ l : List α, (l.map F).sum = sumN (fun y => F (l.getD y d)) l.length := by
  intro l
  have key : ∀ n, n ≤ l.length → ((l.take n).map F).sum = sumN (fun y => F (l.getD y d)) n := by
    intro n
    induction n with
    | zero => intro _; rfl
    | succ n ih =>
      intro hn
      have hl : n < l.length := by omega
      rw [List.take_succ_eq_append_getElem hl, List.map_append, List.sum_append, ih (by omega), sumN]
      simp [List.getD, hl]
  have := key l.length (Nat.le_refl _)
  rw [List.take_length] at this
  exact this
/-- how often a split goes on to a place -/
def goesC (sp : List Sp3) (x : Int) (y : Nat) : Nat := ([(sp.getD y sp0).2.1, (sp.getD y sp0).2.2].filter fun z => decide (0 ≤ z)).count x
theorem goesC_eq {sp : List Sp3} {x : Int} {y : Nat} (hx : 0 ≤ x) : goesC sp x y = (if (sp.getD y sp0).2.1 = x then 1 else 0) + (if (sp.getD y sp0).2.2 = x then 1 else 0) := by
  unfold goesC
  generalize sp.getD y sp0 = s
  obtain ⟨w, a, b⟩ := s
  dsimp only
  by_cases ha : 0 ≤ a <;> by_cases hb : 0 ≤ b
  · rw [List.filter_cons, if_pos (by simpa using ha), List.filter_cons, if_pos (by simpa using hb), List.filter_nil, List.count_cons, List.count_cons, List.count_nil]
    simp only [beq_iff_eq]
    omega
  · rw [List.filter_cons, if_pos (by simpa using ha), List.filter_cons, if_neg (by simpa using hb), List.filter_nil, List.count_cons, List.count_nil, if_neg (show ¬ b = x by omega)]
    simp only [beq_iff_eq]
    omega
  · rw [List.filter_cons, if_neg (by simpa using ha), List.filter_cons, if_pos (by simpa using hb), List.filter_nil, List.count_cons, List.count_nil, if_neg (show ¬ a = x by omega)]
    simp only [beq_iff_eq]
  · rw [List.filter_cons, if_neg (by simpa using ha), List.filter_cons, if_neg (by simpa using hb), List.filter_nil, List.count_nil, if_neg (show ¬ a = x by omega), if_neg (show ¬ b = x by omega)]
theorem nexts_count (sp : List Sp3) (x : Int) : (nexts sp).count x = sumN (goesC sp x) sp.length := by
  unfold nexts
  rw [List.count_flatMap, sumN_list _ sp0]
  rfl
theorem nexts_nonneg {sp : List Sp3} {x : Int} (h : x ∈ nexts sp) : 0 ≤ x := by
  unfold nexts at h
  obtain ⟨s, _, h2⟩ := List.mem_flatMap.1 h
  rw [List.mem_filter, decide_eq_true_eq] at h2
  exact h2.2
/-! ### bits -/
theorem bit_put (m k x : Nat) : (m ||| 2 ^ k).testBit x = (m.testBit x || decide (k = x)) := by rw [Nat.testBit_or, Nat.testBit_two_pow]
def bitN (m x : Nat) : Nat := if m.testBit x = true then 1 else 0
/-- how often the places whose bits are set go on to a place -/
def bitsS (sp : List Sp3) (c : Nat → Nat) (m : Nat) : Nat := sumN (fun y => if m.testBit y = true then c y else 0) sp.length
theorem bitsS_put {sp : List Sp3} {c : Nat → Nat} {m k : Nat} (hk : k < sp.length) (h : m.testBit k = false) : bitsS sp c (m ||| 2 ^ k) = bitsS sp c m + c k := by
  unfold bitsS
  rw [sumN_put (c := fun y => if m.testBit y = true then c y else 0) (d := fun y => if (m ||| 2 ^ k).testBit y = true then c y else 0) (k := k) (z := c k) ?_ ?_ sp.length, if_pos hk]
  · rw [bit_put, h, decide_eq_true rfl]; simp
  · intro y hy; rw [bit_put, decide_eq_false (Ne.symm hy), Bool.or_false]
theorem bitN_put {m k x : Nat} (h : m.testBit k = false) : bitN (m ||| 2 ^ k) x = bitN m x + if k = x then 1 else 0 := by
  unfold bitN
  rw [bit_put]
  by_cases hx : k = x
  · subst hx; rw [h]; simp
  · rw [decide_eq_false hx, Bool.or_false, if_neg hx, Nat.add_zero]
/-! ### a walk checks -/
theorem walk_checks {P : Nat} {hf : Nat → Bool} {cl : List (Nat → Bool)} {sp : List Sp3} : ∀ (f m : Nat) (fr g : Int) (kn : List Int) (m' : Nat), walkF P hf cl sp f m fr g kn = some m' → (g < 0 ∨ fr < g ∧ g < sp.length) ∧ (∃ n, checks P hf cl sp f g kn = some n ∧ bitsS sp (fun _ => 1) m' = bitsS sp (fun _ => 1) m + n) ∧ (∀ x, m'.testBit x = true → m.testBit x = true ∨ (0 ≤ g ∧ g ≤ x))
    ∧ (∀ x : Nat, bitN m' x + bitsS sp (goesC sp x) m = bitN m x + (if g = x then 1 else 0) + bitsS sp (goesC sp x) m') := by
  intro f
  induction f with
  | zero => intro m fr g kn m' h; cases h
  | succ f ih =>
    intro m fr g kn m' h
    by_cases hg : g < 0
    · unfold walkF at h
      rw [if_pos hg] at h
      split at h
      · rename_i hc
        cases h
        refine ⟨.inl hg, ⟨0, by unfold checks; rw [if_pos hg, if_pos hc], rfl⟩, fun x hx => .inl hx, fun x => ?_⟩
        rw [if_neg (by omega)]; omega
      · cases h
    · obtain ⟨k, x, y, m1, hs, hk, hn, h1, h2, h3, ha, hb⟩ := walk_node (by omega) h
      obtain ⟨a1, ⟨na, a2, a3⟩, a4, a5⟩ := ih _ _ _ _ _ ha
      obtain ⟨b1, ⟨nb, b2, b3⟩, b4, b5⟩ := ih _ _ _ _ _ hb
      have hgl : g.toNat < sp.length := by omega
      refine ⟨.inr ⟨h1, h2⟩, ⟨1 + na + nb, checks_of (by omega) hs hk hn (nextOk_iff.2 a1) (nextOk_iff.2 b1) a2 b2, ?_⟩, fun z hz => ?_, fun z => ?_⟩
      · rw [b3, a3, bitsS_put hgl h3]; omega
      · rcases b4 z hz with hz | hz
        · rcases a4 z hz with hz | hz
          · rw [bit_put, Bool.or_eq_true, decide_eq_true_eq] at hz
            rcases hz with hz | hz
            · exact .inl hz
            · right; omega
          · right; omega
        · right; omega
      · have e1 := a5 z
        have e2 := b5 z
        rw [bitsS_put hgl h3, bitN_put h3] at e1
        have e3 := goesC_eq (sp := sp) (x := (z : Int)) (y := g.toNat) (by omega)
        rw [hs] at e3
        dsimp only at e3
        have e4 : (if g.toNat = z then 1 else 0 : Nat) = if g = (z : Int) then 1 else 0 := by
          by_cases hz : g.toNat = z
          · rw [if_pos hz, if_pos (by omega)]
          · rw [if_neg hz, if_neg (by omega)]
        omega
/-! ### checks walk -/
def visC (sp : List Sp3) : Nat → Int → Nat → Nat
  | 0, _, _ => 0
  | f + 1, g, x => if g < 0 then 0 else (if g.toNat = x then 1 else 0) + visC sp f (sp.getD g.toNat sp0).2.1 x + visC sp f (sp.getD g.toNat sp0).2.2 x
theorem visC_node {sp : List Sp3} {f : Nat} {g : Int} {k : Nat} {x y : Int} (hg : 0 ≤ g) (hs : sp.getD g.toNat sp0 = ((k : Int), x, y)) (z : Nat) : visC sp (f + 1) g z = (if g.toNat = z then 1 else 0) + visC sp f x z + visC sp f y z := by
  rw [visC, if_neg (by omega), hs]
theorem visC_leaf {sp : List Sp3} {f : Nat} {g : Int} (hg : g < 0) (z : Nat) : visC sp f g z = 0 := by
  cases f with
  | zero => rfl
  | succ f => rw [visC, if_pos hg]
theorem sumN_mul_add (a b c : Nat → Nat) (n : Nat) : sumN (fun y => (a y + b y) * c y) n = sumN (fun y => a y * c y) n + sumN (fun y => b y * c y) n := by
  rw [← sumN_add]; exact sumN_congr n (fun y _ => Nat.add_mul _ _ _)
theorem sumN_one_at (c : Nat → Nat) (k n : Nat) : sumN (fun y => (if k = y then 1 else 0) * c y) n = if k < n then c k else 0 := by
  have := sumN_put (c := fun _ => 0) (d := fun y => (if k = y then 1 else 0) * c y) (k := k) (z := c k) (by simp) (fun y hy => by rw [if_neg (Ne.symm hy)]; simp) n
  rw [this, sumN_zero, Nat.zero_add]
theorem checks_vis {P : Nat} {hf : Nat → Bool} {cl : List (Nat → Bool)} {sp : List Sp3} : ∀ (f : Nat) (g : Int) (kn : List Int) (n : Nat), checks P hf cl sp f g kn = some n → g < sp.length →
    sumN (visC sp f g) sp.length = n ∧ (∀ y, 0 < visC sp f g y → y < sp.length ∧ 0 ≤ g ∧ g ≤ y) ∧ (∀ y : Nat, 0 < visC sp f g y → ∀ x : Int, 0 < goesC sp x y → 0 ≤ x → y < x)
    ∧ (∀ x : Nat, visC sp f g x = (if g = x then 1 else 0) + sumN (fun y => visC sp f g y * goesC sp x y) sp.length) := by
  intro f
  induction f with
  | zero => intro g kn n h; cases h
  | succ f ih =>
    intro g kn n h hgl
    by_cases hg : g < 0
    · unfold checks at h
      rw [if_pos hg] at h
      have hn : n = 0 := by split at h <;> cases h; rfl
      subst hn
      have hz := visC_leaf (sp := sp) (f := f + 1) hg
      refine ⟨?_, fun y hy => by rw [hz] at hy; omega, fun y hy => by rw [hz] at hy; omega, fun x => ?_⟩
      · rw [sumN_congr _ (fun y _ => hz y), sumN_zero]
      · rw [hz, if_neg (by omega), sumN_congr (d := fun _ => 0) _ (fun y _ => by rw [hz, Nat.zero_mul]), sumN_zero]
    · obtain ⟨k, x, y, a, b, hs, hk, hn, hx, hy, ha, hb, rfl⟩ := checks_node (by omega) h
      rw [nextOk_iff] at hx hy
      obtain ⟨a1, a2, a3, a4⟩ := ih _ _ _ ha (by omega)
      obtain ⟨b1, b2, b3, b4⟩ := ih _ _ _ hb (by omega)
      have hz := visC_node (f := f) (by omega : 0 ≤ g) hs
      have hgn : g.toNat < sp.length := by omega
      refine ⟨?_, fun z hz0 => ?_, fun z hz0 u hu hu0 => ?_, fun u => ?_⟩
      · rw [sumN_congr _ (fun z _ => hz z), sumN_add, sumN_add, a1, b1]
        have := sumN_one_at (fun _ => 1) g.toNat sp.length
        simp only [Nat.mul_one] at this
        rw [this, if_pos hgn]
      · rw [hz] at hz0
        by_cases h1 : g.toNat = z
        · omega
        · rw [if_neg h1] at hz0
          by_cases h2 : 0 < visC sp f x z
          · have := a2 z h2; omega
          · have := b2 z (by omega); omega
      · rw [hz] at hz0
        by_cases h2 : 0 < visC sp f x z
        · exact a3 z h2 u hu hu0
        · by_cases h3 : 0 < visC sp f y z
          · exact b3 z h3 u hu hu0
          · have h1 : g.toNat = z := by
              by_cases h1 : g.toNat = z
              · exact h1
              · rw [if_neg h1] at hz0; omega
            subst h1
            rw [goesC_eq hu0, hs] at hu
            dsimp only at hu
            by_cases h4 : x = u
            · omega
            · rw [if_neg h4] at hu
              by_cases h5 : y = u
              · omega
              · rw [if_neg h5] at hu; omega
      · have e1 := sumN_one_at (goesC sp u) g.toNat sp.length
        rw [if_pos hgn] at e1
        rw [hz, sumN_congr _ (fun z _ => by rw [hz z]), sumN_mul_add, sumN_mul_add, e1, a4 u, b4 u, goesC_eq (by omega), hs]
        have e4 : (if g.toNat = u then 1 else 0 : Nat) = if g = (u : Int) then 1 else 0 := by
          by_cases hz : g.toNat = u
          · rw [if_pos hz, if_pos (by omega)]
          · rw [if_neg hz, if_neg (by omega)]
        rw [e4]
        dsimp only
        omega
/-- whoever is come to just once is come to by a walk -/
theorem checks_walk {P : Nat} {hf : Nat → Bool} {cl : List (Nat → Bool)} {sp : List Sp3} : ∀ (f m : Nat) (fr g : Int) (kn : List Int) (n : Nat), checks P hf cl sp f g kn = some n → (g < 0 ∨ fr < g ∧ g < sp.length) → (∀ x, visC sp f g x ≤ 1) → (∀ x, m.testBit x = true → visC sp f g x = 0) →
    ∃ m', walkF P hf cl sp f m fr g kn = some m' ∧ ∀ x, m'.testBit x = (m.testBit x || decide (0 < visC sp f g x)) := by
  intro f
  induction f with
  | zero => intro m fr g kn n h; cases h
  | succ f ih =>
    intro m fr g kn n h hgl h1 hm
    by_cases hg : g < 0
    · have hz := visC_leaf (sp := sp) (f := f + 1) hg
      unfold checks at h
      rw [if_pos hg] at h
      split at h
      · rename_i hc
        refine ⟨m, by rw [walkF, if_pos hg, if_pos hc], fun x => by rw [hz]; simp⟩
      · cases h
    · obtain ⟨k, x, y, a, b, hs, hk, hn, hx, hy, ha, hb, rfl⟩ := checks_node (by omega) h
      rw [nextOk_iff] at hx hy
      have hz := visC_node (f := f) (by omega : 0 ≤ g) hs
      have hgn : m.testBit g.toNat = false := by
        cases hb : m.testBit g.toNat with
        | false => rfl
        | true =>
          have := hm _ hb
          rw [hz, if_pos rfl] at this
          omega
      have hg1 := h1 g.toNat
      rw [hz, if_pos rfl] at hg1
      obtain ⟨m1, e1, e2⟩ := ih (m ||| 2 ^ g.toNat) g x (kn.set k 0) a ha hx (fun z => by have := h1 z; rw [hz] at this; omega) (fun z hz1 => by
        rw [bit_put, Bool.or_eq_true, decide_eq_true_eq] at hz1
        rcases hz1 with hz1 | rfl
        · have := hm z hz1; rw [hz] at this; omega
        · omega)
      obtain ⟨m2, f1, f2⟩ := ih m1 g y (kn.set k 1) b hb hy (fun z => by have := h1 z; rw [hz] at this; omega) (fun z hz1 => by
        rw [e2, bit_put, Bool.or_eq_true, Bool.or_eq_true, decide_eq_true_eq, decide_eq_true_eq] at hz1
        rcases hz1 with (hz1 | rfl) | hz1
        · have := hm z hz1; rw [hz] at this; omega
        · omega
        · have := h1 z; rw [hz] at this; omega)
      refine ⟨m2, by rw [walk_of (by omega) hs hk hn (by omega) (by omega) hgn e1, f1], fun z => ?_⟩
      rw [f2, e2, bit_put, Bool.eq_iff_iff]
      simp only [Bool.or_eq_true, decide_eq_true_eq]
      rw [hz]
      by_cases h4 : g.toNat = z
      · rw [if_pos h4]
        constructor
        · intro _; right; omega
        · intro _; left; left; right; exact h4
      · rw [if_neg h4]
        constructor
        · rintro (((h | h) | h) | h)
          · exact .inl h
          · exact absurd h h4
          · right; omega
          · right; omega
        · rintro (h | h)
          · exact .inl (.inl (.inl h))
          · by_cases h5 : 0 < visC sp f x z
            · exact .inl (.inr h5)
            · right; omega
/-- the walk of the program tells what is a proof -/
theorem walk_proof {P : Nat} {hf : Nat → Bool} {cl : List (Nat → Bool)} {sp : List Sp3} {fi : Int} (hl : sp.length ≤ 15) : walkF P hf cl sp (sp.length + 1) 0 (-1) fi (noneK P) = some (2 ^ sp.length - 1) ↔ proofV P hf cl sp fi = true := by
  have hz0 : ∀ c, bitsS sp c 0 = 0 := fun c => by unfold bitsS; rw [sumN_congr (d := fun _ => 0) _ (fun y _ => by simp), sumN_zero]
  have hfull : ∀ c, bitsS sp c (2 ^ sp.length - 1) = sumN c sp.length := fun c => by
    unfold bitsS
    refine sumN_congr _ fun y hy => ?_
    rw [Nat.testBit_two_pow_sub_one, decide_eq_true hy]; rfl
  rw [proofV_iff]
  constructor
  · intro h
    obtain ⟨h1, ⟨n, h2, h3⟩, h4, h5⟩ := walk_checks _ _ _ _ _ _ h
    rw [hz0, hfull, sumN_one, Nat.zero_add] at h3
    have hfi : fi ≤ 0 := by
      by_cases hp : 0 < fi
      · exfalso
        have hb : (2 ^ sp.length - 1).testBit 0 = true := by rw [Nat.testBit_two_pow_sub_one, decide_eq_true (by omega)]
        rcases h4 0 hb with hb | hb
        · rw [Nat.zero_testBit] at hb; cases hb
        · omega
      · omega
    refine ⟨hl, hfi, fun hh => by omega, by rw [h2, h3], ?_⟩
    have hbit : ∀ x : Nat, bitN (2 ^ sp.length - 1) x = (if fi = x then 1 else 0) + (nexts sp).count (x : Int) := fun x => by
      have := h5 x
      rw [hz0, hfull, ← nexts_count] at this
      have e : bitN 0 x = 0 := by unfold bitN; rw [Nat.zero_testBit]; rfl
      omega
    have hle : ∀ x : Nat, bitN (2 ^ sp.length - 1) x = if x < sp.length then 1 else 0 := fun x => by
      unfold bitN; rw [Nat.testBit_two_pow_sub_one]; simp
    unfold onceB
    rw [Bool.and_eq_true, List.all_eq_true, decide_eq_true_eq]
    constructor
    · intro x hx
      rw [decide_eq_true_eq]
      obtain ⟨z, rfl⟩ := Int.eq_ofNat_of_zero_le (nexts_nonneg hx)
      have h6 := hbit z
      have h7 : 0 < (nexts sp).count (z : Int) := List.count_pos_iff.2 hx
      rw [hle] at h6
      by_cases hz : z < sp.length
      · show (z : Int) < _; omega
      · rw [if_neg hz] at h6; omega
    · rw [List.nodup_iff_count]
      intro x
      by_cases hx : 0 ≤ x
      · obtain ⟨z, rfl⟩ := Int.eq_ofNat_of_zero_le hx
        have h6 := hbit z
        rw [hle] at h6
        show (nexts sp).count (z : Int) ≤ 1
        split at h6 <;> omega
      · rw [List.count_eq_zero_of_not_mem (fun h => hx (nexts_nonneg h))]; omega
  · rintro ⟨_, h1, h2, h3, h4⟩
    unfold onceB at h4
    rw [Bool.and_eq_true, List.all_eq_true, decide_eq_true_eq, List.nodup_iff_count] at h4
    have hgl : fi < sp.length := by omega
    obtain ⟨v1, v2, v3, v4⟩ := checks_vis _ _ _ _ h3 hgl
    have hone : ∀ x, visC sp (sp.length + 1) fi x ≤ 1 := by
      intro x
      induction x using Nat.strongRecOn with
      | ind x ihx =>
        have key : sumN (fun y => visC sp (sp.length + 1) fi y * goesC sp x y) sp.length ≤ sumN (goesC sp x) sp.length := by
          refine sumN_le _ fun y hy => ?_
          by_cases hv : 0 < visC sp (sp.length + 1) fi y
          · by_cases hg : 0 < goesC sp x y
            · have h5 := v3 y hv x hg (by omega)
              have h6 := ihx y (by omega)
              have h7 : visC sp (sp.length + 1) fi y = 1 := by omega
              rw [h7]; omega
            · have : goesC sp x y = 0 := by omega
              rw [this]; omega
          · have : visC sp (sp.length + 1) fi y = 0 := by omega
            rw [this]; omega
        rw [← nexts_count] at key
        have h8 := h4.2 (x : Int)
        rw [v4 x]
        by_cases hf0 : fi = (x : Int)
        · have hx0 : x = 0 := by omega
          subst hx0
          have : sumN (fun y => visC sp (sp.length + 1) fi y * goesC sp (0 : Nat) y) sp.length = 0 := by
            rw [sumN_congr (d := fun _ => 0) _ (fun y hy => ?_), sumN_zero]
            by_cases hv : 0 < visC sp (sp.length + 1) fi y
            · by_cases hg : 0 < goesC sp (0 : Nat) y
              · have := v3 y hv (0 : Nat) hg (by omega); omega
              · have : goesC sp (0 : Nat) y = 0 := by omega
                rw [this]; omega
            · have : visC sp (sp.length + 1) fi y = 0 := by omega
              rw [this]; omega
          rw [this]
          split <;> omega
        · rw [if_neg hf0]; omega
    obtain ⟨m', w1, w2⟩ := checks_walk (fr := -1) (m := 0) _ _ _ _ h3 (by omega) hone (fun x hx => by rw [Nat.zero_testBit] at hx; cases hx)
    rw [w1]
    congr 1
    refine Nat.eq_of_testBit_eq fun x => ?_
    rw [w2, Nat.zero_testBit, Bool.false_or, Nat.testBit_two_pow_sub_one]
    by_cases hx : x < sp.length
    · have := sumN_full _ (fun y _ => hone y) v1 x hx
      rw [decide_eq_true hx, decide_eq_true (by omega)]
    · rw [decide_eq_false hx, decide_eq_false (fun h => hx (v2 x h).1)]
end Go.Proofs.YtefmoljipbbmmaaDoor
/- Proofs by cases: the tables of the worlds that agree with what is known, and how a person parts them; without code. -/
namespace Go.Proofs.YtefmoljipbbmmaaDoor
open Go.RowKit
theorem leaf_term {p : Int} (h1 : 1 ≤ p) (h4 : p ≤ 4) {k : Nat} (hk : (k : Int) < p) : termOk p [(0, (k : Int))] = true ∧ ∀ W, hfV p [(0, (k : Int))] W = W.testBit k := by
  have ho : (Tm.leaf 0 (k : Int)).ok p := .inl ⟨rfl, by omega, hk⟩
  have ht : termOk p [(0, (k : Int))] = true := termOk_iff.2 ⟨⟨h1, h4⟩, by simp, _, ho, rfl⟩
  refine ⟨ht, fun W => ?_⟩
  have := tmOf_post ho
  unfold hfV
  rw [show [((0 : Int), (k : Int))] = (Tm.leaf 0 (k : Int)).post from rfl, this]
  simp [holds]
theorem agreeN_bit {p : Int} {kn : List Int} (W : Nat) : (agreeN p kn).testBit W = (decide (W < 2 ^ p.toNat) && agreeB p.toNat kn W) := by unfold agreeN; rw [tabF_bit]
theorem bit11_one (W k : Nat) : (1 = bit11 W k) ↔ W.testBit k = true := by unfold bit11; cases W.testBit k <;> simp
theorem bit11_zero (W k : Nat) : (0 = bit11 W k) ↔ W.testBit k = false := by unfold bit11; cases W.testBit k <;> simp
/-- the case in which a person lies, and that in which the person tells the truth -/
theorem agree_part {P : Nat} {kn : List Int} {k : Nat} (h1 : 1 ≤ P) (h4 : P ≤ 4) (hl : kn.length = P) (hk : k < P) (hn : kn.getD k 0 < 0) :
    agreeN P kn ^^^ (agreeN P kn &&& tabN P [(0, (k : Int))]) = agreeN P (kn.set k 0) ∧ agreeN P kn &&& tabN P [(0, (k : Int))] = agreeN P (kn.set k 1) := by
  have ht := (leaf_term (p := P) (by omega) (by omega) (k := k) (by omega)).2
  have hb : ∀ W, (tabN P [(0, (k : Int))]).testBit W = (decide (W < 2 ^ P) && W.testBit k) := fun W => by
    have : tabN P [(0, (k : Int))] = tabF (2 ^ P) (hfV P [(0, (k : Int))]) := rfl
    rw [this, tabF_bit, ht]
  have hs : ∀ (z : Int) W, 0 ≤ z → (agreeB P (kn.set k z) W = (agreeB P kn W && decide (z = bit11 W k))) := fun z W hz => by
    rw [Bool.eq_iff_iff, agree_set hl hk hn z hz, Bool.and_eq_true, decide_eq_true_eq]
  constructor
  · refine Nat.eq_of_testBit_eq fun W => ?_
    rw [Nat.testBit_xor, Nat.testBit_and, hb, agreeN_bit, agreeN_bit, Int.toNat_natCast, hs 0 W (by omega)]
    rcases bit_cases W k with h | h
    · have := (bit11_zero W k).1 h.symm
      rw [this, h]; simp
    · have := (bit11_one W k).1 h.symm
      rw [this, h]; cases decide (W < 2 ^ P) <;> cases agreeB P kn W <;> rfl
  · refine Nat.eq_of_testBit_eq fun W => ?_
    rw [Nat.testBit_and, hb, agreeN_bit, agreeN_bit, Int.toNat_natCast, hs 1 W (by omega)]
    rcases bit_cases W k with h | h
    · have := (bit11_zero W k).1 h.symm
      rw [this, h]; simp
    · have := (bit11_one W k).1 h.symm
      rw [this, h]; cases decide (W < 2 ^ P) <;> cases agreeB P kn W <;> rfl
/-- some world agrees -/
theorem agree_some {P : Nat} {kn : List Int} (h01 : ∀ k, k < P → kn.getD k 0 ≤ 1) : agreeN P kn ≠ 0 := by
  intro h
  have hb := agreeN_bit (p := (P : Int)) (kn := kn) (tabF P (fun k => decide (kn.getD k 0 = 1)))
  rw [h, Nat.zero_testBit, Int.toNat_natCast, decide_eq_true (tabF_lt _ _), Bool.true_and] at hb
  have : agreeB P kn (tabF P (fun k => decide (kn.getD k 0 = 1))) = true := by
    rw [agree_iff]
    intro k hk
    by_cases hn : kn.getD k 0 < 0
    · exact .inl hn
    · right
      unfold bit11
      rw [tabF_bit, decide_eq_true hk, Bool.true_and]
      have := h01 k hk
      by_cases h1 : kn.getD k 0 = 1
      · rw [decide_eq_true h1, if_pos rfl]; exact h1
      · rw [decide_eq_false h1, if_neg (by decide)]; omega
  rw [this] at hb
  cases hb
/-- who is known parts nothing -/
theorem agree_known {P : Nat} {kn : List Int} {k : Nat} (h1 : 1 ≤ P) (h4 : P ≤ 4) (hk : k < P) (hn : ¬ kn.getD k 0 < 0) :
    agreeN P kn ^^^ (agreeN P kn &&& tabN P [(0, (k : Int))]) = 0 ∨ agreeN P kn &&& tabN P [(0, (k : Int))] = 0 := by
  have ht := (leaf_term (p := P) (by omega) (by omega) (k := k) (by omega)).2
  have hb : ∀ W, (tabN P [(0, (k : Int))]).testBit W = (decide (W < 2 ^ P) && W.testBit k) := fun W => by
    have : tabN P [(0, (k : Int))] = tabF (2 ^ P) (hfV P [(0, (k : Int))]) := rfl
    rw [this, tabF_bit, ht]
  have ha : ∀ W, agreeB P kn W = true → kn.getD k 0 = bit11 W k := fun W h => by
    rcases agree_iff.1 h k hk with h | h
    · exact absurd h hn
    · exact h
  by_cases h0 : kn.getD k 0 = 1
  · left
    refine Nat.eq_of_testBit_eq fun W => ?_
    rw [Nat.testBit_xor, Nat.testBit_and, hb, agreeN_bit, Nat.zero_testBit, Int.toNat_natCast]
    cases hg : agreeB P kn W with
    | false => simp
    | true =>
      have := (bit11_one W k).1 (h0 ▸ ha W hg)
      rw [this]; cases decide (W < 2 ^ P) <;> rfl
  · right
    refine Nat.eq_of_testBit_eq fun W => ?_
    rw [Nat.testBit_and, hb, agreeN_bit, Nat.zero_testBit, Int.toNat_natCast]
    cases hg : agreeB P kn W with
    | false => simp
    | true =>
      have h2 := ha W hg
      rcases bit_cases W k with h | h
      · have := (bit11_zero W k).1 h.symm
        rw [this]; simp
      · omega
/-- all worlds agree with nothing -/
theorem agree_all {p : Int} (h1 : 1 ≤ p) : agreeN p (noneK p.toNat) = 2 ^ (2 ^ p.toNat) - 1 := by
  have _ := h1
  refine Nat.eq_of_testBit_eq fun W => ?_
  rw [agreeN_bit, noneK_agree, Nat.testBit_two_pow_sub_one, Bool.and_true]
/-- what is known is one of so many, each at most one -/
def KnOk (P : Nat) (kn : List Int) : Prop := kn.length = P ∧ ∀ k, k < P → kn.getD k 0 ≤ 1
theorem KnOk.none (P : Nat) : KnOk P (noneK P) := ⟨noneK_len P, noneK_le P⟩
theorem KnOk.set {P : Nat} {kn : List Int} (h : KnOk P kn) {k : Nat} (hk : k < P) {z : Int} (hz : z ≤ 1) : KnOk P (kn.set k z) :=
  ⟨by rw [List.length_set]; exact h.1, fun j hj => by rw [getD_set (by rw [h.1]; exact hk)]; split; exact hz; exact h.2 j hj⟩
/-- what parts a case: just who is not known -/
theorem agree_parts {P : Nat} {kn : List Int} {k : Nat} (h1 : 1 ≤ P) (h4 : P ≤ 4) (hkn : KnOk P kn) (hk : k < P) :
    (¬ kn.getD k 0 < 0 → (agreeN P kn ^^^ (agreeN P kn &&& tabN P [(0, (k : Int))]) = 0 ∨ agreeN P kn &&& tabN P [(0, (k : Int))] = 0)) ∧
    (kn.getD k 0 < 0 → agreeN P kn ^^^ (agreeN P kn &&& tabN P [(0, (k : Int))]) = agreeN P (kn.set k 0) ∧ agreeN P kn &&& tabN P [(0, (k : Int))] = agreeN P (kn.set k 1) ∧ agreeN P (kn.set k 0) ≠ 0 ∧ agreeN P (kn.set k 1) ≠ 0) :=
  ⟨fun h => agree_known h1 h4 hk h, fun h => by
    obtain ⟨a, b⟩ := agree_part h1 h4 hkn.1 hk h
    exact ⟨a, b, agree_some (hkn.set hk (by omega)).2, agree_some (hkn.set hk (by omega)).2⟩⟩
end Go.Proofs.YtefmoljipbbmmaaDoor
/- Contract of the reference's AlwaysOk. -/
namespace Go.Proofs.YtefmoljipbbmmaaDoor
open Go.RowKit
attribute [local irreducible] holds tabN tabV holdsV sameV followsV alwaysV matterV
end Go.Proofs.YtefmoljipbbmmaaDoor
