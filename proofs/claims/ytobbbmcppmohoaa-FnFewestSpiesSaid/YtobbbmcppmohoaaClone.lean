/- Contract of slices.Clone at rows of marks: a new row of the same marks. -/
import Derived.Test.YtobbbmcppmohoaaConcat
namespace Go.Proofs.Ytobbbmcppmohoaa
open Go.RowKit Go.Joins
theorem below_grownC {B : Nat} {w w1 w2 : World} {row : Option Nat} (h : Below B w w1) (hg : w1.grownBy w2 row) (hB : B ≤ w1.heap.size) (hr : ∀ k, row = some k → B ≤ k) : Below B w w2 :=
  h.trans ⟨hg.os, hg.tape, hg.output, hg.size, fun i hi => hg.block i (by omega) (fun e => by have := hr i e.symm; omega)⟩
theorem mcells_nilI : mcells [] = [] := rfl
end Go.Proofs.Ytobbbmcppmohoaa
