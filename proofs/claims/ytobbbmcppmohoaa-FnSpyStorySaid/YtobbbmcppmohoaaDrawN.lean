/- The reference model's draws of a number of people and a term. -/
import Derived.Test.YtobbbmcppmohoaaDrawM
import Derived.Test.YtobbbmcppmohoaaLawsA
namespace Go.Proofs.Ytobbbmcppmohoaa
open Go.RowKit Go.Joins

/-- a number of people and a row of marks; the reader is at most at c -/
def DrewT (b c : Nat) (w : World) (e : Ending) (w' : World) : Prop :=
  ∃ (p : Int) (g n cap : Nat) (ms : List (Int × Int)), 1 ≤ p ∧ p ≤ 8 ∧ e = .returned (.tuple #[.int .i64 p, .slice (some ⟨g, 0, none⟩) n cap]) ∧ ms.length = n ∧ w'.ownsRow w.heap.size TM 2 (.slice (some ⟨g, 0, none⟩) n cap) n (mcells ms) ∧ I64s ms ∧ n ≤ 20 ∧ Rd w' b c ∧ w.grownBy w' (some b)
/-- what a draw of a number of people and a row of marks hands back -/
def OutT (w : World) (e : Ending) (w' : World) : Prop :=
  ∃ (p : Int) (g n cap : Nat) (ms : List (Int × Int)), 1 ≤ p ∧ p ≤ 8 ∧ e = .returned (.tuple #[.int .i64 p, .slice (some ⟨g, 0, none⟩) n cap]) ∧ ms.length = n ∧ w'.ownsRow w.heap.size TM 2 (.slice (some ⟨g, 0, none⟩) n cap) n (mcells ms) ∧ I64s ms ∧ n ≤ 20 ∧ Below w.heap.size w w'






end Go.Proofs.Ytobbbmcppmohoaa
