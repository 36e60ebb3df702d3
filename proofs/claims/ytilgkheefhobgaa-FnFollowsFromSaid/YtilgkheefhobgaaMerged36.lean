/- Texts of a proof, merged: ConcatK, Clone. -/
import Derived.Test.YtilgkheefhobgaaMerged34
import Derived.Test.YtilgkheefhobgaaMerged29
/- slices.Grow of the nil slice and slices.Concat, at rows of claims: a new row of all claims, one part after the other. -/
namespace Go.Proofs.Ytilgkheefhobgaa
open Go.RowKit Go.Joins
/-- what a call hands back that returns a row of claims of its own -/
def RowOutK (qs : List QC) (w : World) (e : Ending) (w' : World) : Prop := ∃ v, e = .returned v ∧ w'.ownsRow w.heap.size TC 2 v qs.length (ccells qs) ∧ Below w.heap.size w w'
abbrev PK := Value × List QC
def pk0 : PK := (.slice none 0 0, [])
def totK (ps : List PK) : Nat := (ps.map (·.2.length)).sum
theorem totK_snoc (ps : List PK) (q : PK) : totK (ps ++ [q]) = totK ps + q.2.length := by simp [totK]
/-! ### the parts -/
def flatK (ps : List PK) : List QC := ps.flatMap (·.2)
theorem pk_at {ps : List PK} {j : Nat} (hj : j < ps.length) : ps.getD j pk0 = ps[j] := by simp [List.getD, hj]
theorem flatK_take {ps : List PK} {j : Nat} (hj : j < ps.length) : flatK (ps.take (j + 1)) = flatK (ps.take j) ++ (ps.getD j pk0).2 := by
  rw [pk_at hj, List.take_succ_eq_append_getElem hj]
  unfold flatK
  rw [List.flatMap_append, List.flatMap_singleton]
theorem totK_take {ps : List PK} {j : Nat} (hj : j < ps.length) : totK (ps.take (j + 1)) = totK (ps.take j) + (ps.getD j pk0).2.length := by
  rw [pk_at hj, List.take_succ_eq_append_getElem hj, totK_snoc]
theorem totK_take_le (ps : List PK) (j : Nat) : totK (ps.take j) ≤ totK ps := by
  conv => rhs; rw [← List.take_append_drop j ps]
  unfold totK
  rw [List.map_append, List.sum_append]
  exact Nat.le_add_right _ _
theorem flatK_length (ps : List PK) : (flatK ps).length = totK ps := by
  simp [flatK, totK, List.length_flatMap]
/-- a row of parts, in block g, each of which reads as marks below B -/
def PartsAtK (w : World) (g B : Nat) (ps : List PK) : Prop := ∀ j, j < ps.length → w.cell? ⟨g, j, none⟩ = some (ps.getD j pk0).1 ∧ RdStory w B (ps.getD j pk0).1 (ps.getD j pk0).2
theorem PartsAtK.below {w w' : World} {g B : Nat} {ps : List PK} (h : PartsAtK w g B ps) (hB : B ≤ w.heap.size) (hg : g < w.heap.size) (hb : ∀ k, k < w.heap.size → w'.heap[k]? = w.heap[k]?) : PartsAtK w' g B ps := fun j hj =>
  ⟨by rw [← (h j hj).1]; exact World.cell?_of_block (w := w) (hb g hg), (h j hj).2.below fun k hk => hb k (by omega)⟩
end Go.Proofs.Ytilgkheefhobgaa
/- Contract of slices.Clone at rows of marks: a new row of the same marks. -/
namespace Go.Proofs.Ytilgkheefhobgaa
open Go.RowKit Go.Joins
theorem below_grownC {B : Nat} {w w1 w2 : World} {row : Option Nat} (h : Below B w w1) (hg : w1.grownBy w2 row) (hB : B ≤ w1.heap.size) (hr : ∀ k, row = some k → B ≤ k) : Below B w w2 :=
  h.trans ⟨hg.os, hg.tape, hg.output, hg.size, fun i hi => hg.block i (by omega) (fun e => by have := hr i e.symm; omega)⟩
theorem mcells_nilI : mcells [] = [] := rfl
end Go.Proofs.Ytilgkheefhobgaa
