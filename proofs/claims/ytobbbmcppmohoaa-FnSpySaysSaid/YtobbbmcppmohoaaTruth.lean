/- What holds: terms in worlds, tables of terms, what follows, who matters: the mathematics, without code. -/
import Derived.Test.YtobbbmcppmohoaaTerm
namespace Go.Proofs.Ytobbbmcppmohoaa
open Go.RowKit

/-- a term in a world -/
def holds (w : Nat) : Tm → Bool
  | .leaf k x => if k = 0 then w.testBit x.toNat else decide (x ≤ (heads w : Int))
  | .un t => !holds w t
  | .bin k a b => if k = 3 then holds w a && holds w b else if k = 4 then holds w a || holds w b else holds w a == holds w b
/-- the term that a row of marks is -/
def tmOf (p : Int) (ms : List (Int × Int)) : Tm := (termS p ms).getD (.leaf 1 0)
theorem tmOf_post {p : Int} {t : Tm} (ht : t.ok p) : tmOf p t.post = t := by
  unfold tmOf
  rw [(termS_some (p := p)).2 ⟨ht, rfl⟩]; rfl
def holdsV (p : Int) (ms : List (Int × Int)) (x : Int) : Bool := termOk p ms && wOk p x && holds x.toNat (tmOf p ms)
/-- the table of what f says, of N worlds -/
def tabF (N : Nat) (f : Nat → Bool) : Nat := tabOf ((List.range N).filter f)
theorem tabF_bit (N : Nat) (f : Nat → Bool) (j : Nat) : (tabF N f).testBit j = (decide (j < N) && f j) := by
  unfold tabF
  rw [tabOf_bit, Bool.eq_iff_iff]
  simp
theorem tabF_lt (N : Nat) (f : Nat → Bool) : tabF N f < 2 ^ N := tabOf_lt _ N (fun i hi => by simp at hi; exact hi.1)
theorem tabF_ext {N : Nat} {f g : Nat → Bool} : tabF N f = tabF N g ↔ ∀ j, j < N → f j = g j := by
  constructor
  · intro h j hj
    have := congrArg (fun x => x.testBit j) h
    simpa [tabF_bit, hj] using this
  · intro h
    refine bit_ext (tabF_lt N f) (tabF_lt N g) (fun j hj => ?_)
    rw [tabF_bit, tabF_bit, h j hj]
theorem tabF_succ (N : Nat) (f : Nat → Bool) : tabF (N + 1) f = if f N then tabF N f ||| 1 <<< N else tabF N f := by
  unfold tabF
  rw [List.range_succ, List.filter_append]
  by_cases h : f N = true
  · rw [if_pos h, ← tabOf_snoc]; simp [h]
  · rw [if_neg h]; simp [h]
def tabV (p : Int) (ms : List (Int × Int)) : Int := if termOk p ms = true then (tabF (2 ^ p.toNat) (fun w => holds w (tmOf p ms)) : Int) else -1
def sameV (p : Int) (a b : List (Int × Int)) : Bool := termOk p a && termOk p b && decide (tabV p a = tabV p b)
def followsV (p : Int) (a b : List (Int × Int)) : Bool := termOk p a && termOk p b && decide (∀ w, w < 2 ^ p.toNat → holds w (tmOf p a) = true → holds w (tmOf p b) = true)
def alwaysV (p : Int) (ms : List (Int × Int)) : Bool := termOk p ms && decide (∀ w, w < 2 ^ p.toNat → holds w (tmOf p ms) = true)
def matters (p : Int) (t : Tm) (k : Nat) : Bool := decide (∃ w, w < 2 ^ p.toNat ∧ holds w t ≠ holds (w ^^^ 1 <<< k) t)
def matterN (p : Int) (t : Tm) : Nat := tabF p.toNat (matters p t)
def matterV (p : Int) (ms : List (Int × Int)) : Int := if termOk p ms = true then (matterN p (tmOf p ms) : Int) else -1
theorem tabV_no {p : Int} {ms : List (Int × Int)} (h : termOk p ms = false) : tabV p ms = -1 := by simp [tabV, h]
theorem tabV_yes {p : Int} {ms : List (Int × Int)} (h : termOk p ms = true) : tabV p ms = (tabF (2 ^ p.toNat) (fun w => holds w (tmOf p ms)) : Int) := by simp [tabV, h]
theorem tabV_eq {p : Int} {a b : List (Int × Int)} (ha : termOk p a = true) (hb : termOk p b = true) : tabV p a = tabV p b ↔ ∀ w, w < 2 ^ p.toNat → holds w (tmOf p a) = holds w (tmOf p b) := by
  rw [tabV_yes ha, tabV_yes hb, ← tabF_ext]
  omega
/-! ### rows put together -/
theorem termOk_un {p : Int} {a : List (Int × Int)} (ha : termOk p a = true) : termOk p (a ++ [(2, 0)]) = decide (a.length ≤ 14) := by
  obtain ⟨hp, hl, t, ht, rfl⟩ := termOk_iff.1 ha
  have he : t.post ++ [((2 : Int), (0 : Int))] = (Tm.un t).post := rfl
  by_cases h : t.post.length ≤ 14
  · rw [he, decide_eq_true h]
    exact termOk_iff.2 ⟨hp, by simp [Tm.post]; omega, .un t, by simpa only [Tm.ok] using ht, rfl⟩
  · rw [decide_eq_false h]
    exact termOk_no_len (by simp; omega)
theorem tmOf_un {p : Int} {a : List (Int × Int)} (ha : termOk p a = true) : tmOf p (a ++ [(2, 0)]) = .un (tmOf p a) := by
  obtain ⟨hp, hl, t, ht, rfl⟩ := termOk_iff.1 ha
  have he : t.post ++ [((2 : Int), (0 : Int))] = (Tm.un t).post := rfl
  rw [tmOf_post ht, he, tmOf_post (by simpa only [Tm.ok] using ht)]
theorem termOk_bin {p k : Int} {a b : List (Int × Int)} (hk : 3 ≤ k ∧ k ≤ 5) (ha : termOk p a = true) (hb : termOk p b = true) : termOk p (a ++ b ++ [(k, 0)]) = decide (a.length + b.length ≤ 14) := by
  obtain ⟨hp, hl, t, ht, rfl⟩ := termOk_iff.1 ha
  obtain ⟨_, _, u, hu, rfl⟩ := termOk_iff.1 hb
  have he : t.post ++ u.post ++ [((k : Int), (0 : Int))] = (Tm.bin k t u).post := rfl
  by_cases h : t.post.length + u.post.length ≤ 14
  · rw [he, decide_eq_true h]
    exact termOk_iff.2 ⟨hp, by simp [Tm.post]; omega, .bin k t u, by simp only [Tm.ok]; exact ⟨hk.1, hk.2, ht, hu⟩, rfl⟩
  · rw [decide_eq_false h]
    exact termOk_no_len (by simp; omega)
theorem tmOf_bin {p k : Int} {a b : List (Int × Int)} (hk : 3 ≤ k ∧ k ≤ 5) (ha : termOk p a = true) (hb : termOk p b = true) : tmOf p (a ++ b ++ [(k, 0)]) = .bin k (tmOf p a) (tmOf p b) := by
  obtain ⟨hp, hl, t, ht, rfl⟩ := termOk_iff.1 ha
  obtain ⟨_, _, u, hu, rfl⟩ := termOk_iff.1 hb
  have he : t.post ++ u.post ++ [((k : Int), (0 : Int))] = (Tm.bin k t u).post := rfl
  rw [tmOf_post ht, tmOf_post hu, he, tmOf_post (by simp only [Tm.ok]; exact ⟨hk.1, hk.2, ht, hu⟩)]
theorem termOk_count {p x : Int} (hp : 1 ≤ p ∧ p ≤ 4) (hx : 0 ≤ x ∧ x ≤ p + 1) : termOk p [(1, x)] = true :=
  termOk_iff.2 ⟨hp, by simp, .leaf 1 x, by simp only [Tm.ok]; right; refine ⟨trivial, hx.1, ?_⟩; omega, rfl⟩
theorem tmOf_count {p x : Int} (_hp : 1 ≤ p ∧ p ≤ 4) (hx : 0 ≤ x ∧ x ≤ p + 1) : tmOf p [(1, x)] = .leaf 1 x :=
  tmOf_post (t := .leaf 1 x) (by simp only [Tm.ok]; right; refine ⟨trivial, hx.1, ?_⟩; omega)
/-! ### the laws of what holds -/
theorem holds_un (w : Nat) (t : Tm) : holds w (.un t) = !holds w t := by rw [holds]
theorem holds_and (w : Nat) (a b : Tm) : holds w (.bin 3 a b) = (holds w a && holds w b) := by rw [holds, if_pos rfl]
theorem holds_or (w : Nat) (a b : Tm) : holds w (.bin 4 a b) = (holds w a || holds w b) := by rw [holds, if_neg (by decide), if_pos rfl]
theorem holds_same (w : Nat) (a b : Tm) : holds w (.bin 5 a b) = (holds w a == holds w b) := by rw [holds, if_neg (by decide), if_neg (by decide)]
theorem holds_none (w : Nat) : holds w (.leaf 1 0) = true := by rw [holds, if_neg (by decide)]; simp
theorem same_follows {p : Int} {a b : List (Int × Int)} (ha : termOk p a = true) (hb : termOk p b = true) : sameV p a b = (followsV p a b && followsV p b a) := by
  unfold sameV followsV
  rw [ha, hb]
  simp only [Bool.true_and]
  rw [← Bool.decide_and, decide_eq_decide, tabV_eq ha hb]
  constructor
  · intro h
    exact ⟨fun w hw h1 => by rw [← h w hw]; exact h1, fun w hw h1 => by rw [h w hw]; exact h1⟩
  · rintro ⟨h1, h2⟩ w hw
    rw [Bool.eq_iff_iff]
    exact ⟨h1 w hw, h2 w hw⟩
theorem same_always {p : Int} {a b : List (Int × Int)} (ha : termOk p a = true) (hb : termOk p b = true) (h : termOk p (a ++ b ++ [(5, 0)]) = true) : alwaysV p (a ++ b ++ [(5, 0)]) = sameV p a b := by
  unfold alwaysV sameV
  rw [ha, hb, h, tmOf_bin (by omega) ha hb]
  simp only [Bool.true_and]
  rw [decide_eq_decide, tabV_eq ha hb]
  simp only [holds_same, beq_iff_eq]
theorem same_refl {p : Int} {a : List (Int × Int)} (ha : termOk p a = true) : sameV p a a = true := by simp [sameV, ha]
theorem follows_or {p : Int} {a b : List (Int × Int)} (ha : termOk p a = true) (hb : termOk p b = true) (h : termOk p (a ++ b ++ [(4, 0)]) = true) : sameV p (a ++ b ++ [(4, 0)]) b = followsV p a b := by
  unfold followsV sameV
  rw [ha, hb, h]
  simp only [Bool.true_and]
  rw [decide_eq_decide, tabV_eq h hb, tmOf_bin (by omega) ha hb]
  simp only [holds_or]
  refine forall_congr' fun w => forall_congr' fun _ => ?_
  cases holds w (tmOf p a) <;> cases holds w (tmOf p b) <;> simp
theorem follows_refl {p : Int} {a : List (Int × Int)} (ha : termOk p a = true) : followsV p a a = true := by simp [followsV, ha]
theorem p_of {p : Int} {a : List (Int × Int)} (ha : termOk p a = true) : 1 ≤ p ∧ p ≤ 4 := (termOk_iff.1 ha).1
theorem follows_none {p : Int} {a : List (Int × Int)} (ha : termOk p a = true) : followsV p a [(1, 0)] = true := by
  have hp := p_of ha
  unfold followsV
  rw [ha, termOk_count hp (by omega), tmOf_count hp (by omega)]
  simp [holds_none]
theorem always_none {p : Int} (hp : 1 ≤ p ∧ p ≤ 4) : alwaysV p [(1, 0)] = true := by
  unfold alwaysV
  rw [termOk_count hp (by omega), tmOf_count hp (by omega)]
  simp [holds_none]
theorem not_holds {p : Int} {a : List (Int × Int)} (ha : termOk p a = true) (h : termOk p (a ++ [(2, 0)]) = true) {x : Int} (hx : wOk p x = true) : holdsV p (a ++ [(2, 0)]) x = !holdsV p a x := by
  unfold holdsV
  rw [ha, h, hx, tmOf_un ha, holds_un]
  simp
/-- neither is both not -/
theorem not_either {p : Int} {a b : List (Int × Int)} (ha : termOk p a = true) (hb : termOk p b = true) (h1 : termOk p (a ++ b ++ [(4, 0)] ++ [(2, 0)]) = true) (h2 : termOk p (a ++ [(2, 0)] ++ (b ++ [(2, 0)]) ++ [(3, 0)]) = true) : sameV p (a ++ b ++ [(4, 0)] ++ [(2, 0)]) (a ++ [(2, 0)] ++ (b ++ [(2, 0)]) ++ [(3, 0)]) = true := by
  have hl1 := (termOk_iff.1 h1).2.1
  have hl2 := (termOk_iff.1 h2).2.1
  simp only [List.length_append, List.length_cons, List.length_nil] at hl1 hl2
  have h3 : termOk p (a ++ b ++ [(4, 0)]) = true := by rw [termOk_bin (by omega) ha hb]; simp; omega
  have h4 : termOk p (a ++ [(2, 0)]) = true := by rw [termOk_un ha]; simp; omega
  have h5 : termOk p (b ++ [(2, 0)]) = true := by rw [termOk_un hb]; simp; omega
  unfold sameV
  rw [h1, h2]
  simp only [Bool.true_and]
  rw [decide_eq_true_eq, tabV_eq h1 h2, tmOf_un h3, tmOf_bin (by omega) ha hb, tmOf_bin (by omega) h4 h5, tmOf_un ha, tmOf_un hb]
  intro w _
  rw [holds_un, holds_or, holds_and, holds_un, holds_un]
  simp
end Go.Proofs.Ytobbbmcppmohoaa
