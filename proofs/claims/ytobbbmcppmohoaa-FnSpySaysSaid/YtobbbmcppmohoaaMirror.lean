/- Contracts of the mirrored term, in the program and in the reference model. -/
import Derived.Test.YtobbbmcppmohoaaDrawP
namespace Go.Proofs.Ytobbbmcppmohoaa
open Go.RowKit Go.Joins

/-- one mark mirrored -/
def mirM (p : Int) (m : Int × Int) : List (Int × Int) := if m.1 = 0 then [m, (2, 0)] else if m.1 = 1 then [(1, p + 1 - m.2), (2, 0)] else [m]
def mirN (p : Int) (ms : List (Int × Int)) : List (Int × Int) := ms.flatMap (mirM p)
theorem mirN_take (p : Int) (ms : List (Int × Int)) (k : Nat) (h : k < ms.length) : mirN p (ms.take (k + 1)) = mirN p (ms.take k) ++ mirM p (ms.getD k (0, 0)) := by
  rw [take_snoc (0, 0) ms k h]; simp [mirN]
theorem mirM_len (p : Int) (m : Int × Int) : (mirM p m).length ≤ 2 := by
  unfold mirM; repeat' split
  all_goals simp
theorem mirN_len (p : Int) (ms : List (Int × Int)) : (mirN p ms).length ≤ 2 * ms.length := by
  induction ms with
  | nil => simp [mirN]
  | cons m r ih =>
    have := mirM_len p m
    simp only [mirN, List.flatMap_cons, List.length_append, List.length_cons] at ih ⊢
    omega
/-- what the mirrored term is: its marks, and whether it is told -/
def mirOk (p : Int) (ms : List (Int × Int)) : Bool := termOk p ms && decide ((mirN p ms).length ≤ 15)
def mirV (p : Int) (ms : List (Int × Int)) : List (Int × Int) := if mirOk p ms = true then mirN p ms else []
theorem mirV_len (p : Int) (ms : List (Int × Int)) : (mirV p ms).length ≤ 15 := by
  unfold mirV mirOk
  split
  · rename_i h
    rw [Bool.and_eq_true, decide_eq_true_eq] at h
    exact h.2
  · simp
theorem mir_I64 {p : Int} {ms : List (Int × Int)} (h : termOk p ms = true) : I64s (mirN p ms) := by
  intro m hm
  obtain ⟨x, hx, hmx⟩ := List.mem_flatMap.1 hm
  have hk := termOk_mkOk h x hx
  have hp := (termOk_iff.1 h).1
  unfold mkOk at hk
  rw [decide_eq_true_eq] at hk
  unfold mirM at hmx
  split at hmx
  · simp at hmx
    rcases hmx with rfl | rfl
    · exact ⟨I64_small (by omega) (by omega), I64_small (by omega) (by omega)⟩
    · exact ⟨I64_small (by omega) (by omega), I64_small (by omega) (by omega)⟩
  · split at hmx
    · simp at hmx
      rcases hmx with rfl | rfl
      · exact ⟨I64_small (by omega) (by omega), I64_small (by omega) (by omega)⟩
      · exact ⟨I64_small (by omega) (by omega), I64_small (by omega) (by omega)⟩
    · simp at hmx
      subst hmx
      exact ⟨I64_small (by omega) (by omega), I64_small (by omega) (by omega)⟩
theorem mirV_I64 (p : Int) (ms : List (Int × Int)) : I64s (mirV p ms) := by
  unfold mirV mirOk
  split
  · rename_i h
    rw [Bool.and_eq_true] at h
    exact mir_I64 h.1
  · intro m hm; simp at hm
theorem mirN_nil (p : Int) : mirN p [] = [] := rfl
theorem mirM0 (p x : Int) : mirM p (0, x) = [(0, x), (2, 0)] := rfl
theorem mirM1 (p x : Int) : mirM p (1, x) = [(1, p + 1 - x), (2, 0)] := rfl
theorem mirMe {p k x : Int} (h : 2 ≤ k) : mirM p (k, x) = [(k, x)] := by unfold mirM; rw [if_neg (by simp; omega), if_neg (by simp; omega)]
theorem taken_pos {k : Int} (h : 2 ≤ k ∧ k ≤ 5) : (taken k == 0) = false := by
  rw [beq_eq_false_iff_ne]; unfold taken; repeat' split
  all_goals omega
theorem taken_zero {k : Int} (h : k = 0 ∨ k = 1) : (taken k == 0) = true := by
  rcases h with rfl | rfl <;> rfl
attribute [local irreducible] mirN

theorem own_cat1 {w : World} {base L : Nat} {v : Value} {xs : List (Int × Int)} {m : Int × Int} (hl : xs.length = L) (h : w.ownsRow base TM 2 v (L + 1) (mcells xs ++ mcells [m])) : w.ownsRow base TM 2 v (xs ++ [m]).length (mcells (xs ++ [m])) := by
  rw [mcells_append, List.length_append, hl]; exact h
theorem own_cat2 {w : World} {base L : Nat} {v : Value} {xs : List (Int × Int)} {m m' : Int × Int} (hl : xs.length = L) (h : w.ownsRow base TM 2 v (L + 1 + 1) (mcells xs ++ mcells [m] ++ mcells [m'])) : w.ownsRow base TM 2 v (xs ++ [m, m']).length (mcells (xs ++ [m, m'])) := by
  have e : xs ++ [m, m'] = xs ++ [m] ++ [m'] := by simp
  rw [e, mcells_append, mcells_append, List.length_append, List.length_append, hl]; exact h
theorem own_cat3 {w : World} {base L : Nat} {v : Value} {xs : List (Int × Int)} {m m' : Int × Int} (hl : xs.length = L) (h : w.ownsRow base TM 2 v (L + 2) (mcells xs ++ mcells [m, m'])) : w.ownsRow base TM 2 v (xs ++ [m, m']).length (mcells (xs ++ [m, m'])) := by
  rw [mcells_append, List.length_append, hl]; exact h
/-- what a mirrored term's call hands back: its marks, in memory of the call's own -/
def MirOut (p : Int) (ms : List (Int × Int)) (w : World) (e : Ending) (w' : World) : Prop :=
  ∃ v, e = .returned (.tuple #[v, .bool (mirOk p ms)]) ∧ w'.ownsRow w.heap.size TM 2 v (mirV p ms).length (mcells (mirV p ms)) ∧ Below w.heap.size w w'
theorem mir_no {p : Int} {ms : List (Int × Int)} (h : termOk p ms = false) : mirOk p ms = false ∧ mirV p ms = [] := by
  have : mirOk p ms = false := by simp [mirOk, h]
  exact ⟨this, by simp [mirV, this]⟩
theorem mir_long {p : Int} {ms : List (Int × Int)} (h : ¬ (mirN p ms).length ≤ 15) : mirOk p ms = false ∧ mirV p ms = [] := by
  have : mirOk p ms = false := by simp [mirOk]; omega
  exact ⟨this, by simp [mirV, this]⟩
theorem mir_yes {p : Int} {ms : List (Int × Int)} (h : termOk p ms = true) (hl : (mirN p ms).length ≤ 15) : mirOk p ms = true ∧ mirV p ms = mirN p ms := by
  have : mirOk p ms = true := by simp [mirOk, h, hl]
  exact ⟨this, by simp [mirV, this]⟩

end Go.Proofs.Ytobbbmcppmohoaa
