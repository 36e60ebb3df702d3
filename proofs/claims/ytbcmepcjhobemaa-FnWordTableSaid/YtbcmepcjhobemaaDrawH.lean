/- The reference model's draws of stage 3: a term and a world, two terms. -/
import Derived.Test.YtbcmepcjhobemaaDrawN
import Derived.OwnWalk
namespace Go.Proofs.Ytbcmepcjhobemaa
open Go.RowKit Go.Joins

/-- what a draw of a number of people, a row of marks and a world hands back -/
def OutH (w : World) (e : Ending) (w' : World) : Prop :=
  ∃ (p : Int) (g n cap : Nat) (ms : List (Int × Int)) (x : Int), 1 ≤ p ∧ p ≤ 4 ∧ e = .returned (.tuple #[.int .i64 p, .slice (some ⟨g, 0, none⟩) n cap, .int .i64 x]) ∧ ms.length = n ∧ w'.ownsRow w.heap.size TM 2 (.slice (some ⟨g, 0, none⟩) n cap) n (mcells ms) ∧ I64s ms ∧ n ≤ 20 ∧ 0 ≤ x ∧ x ≤ 100 ∧ Below w.heap.size w w'
/-- what a draw of a number of people and two rows of marks hands back -/
def OutW (w : World) (e : Ending) (w' : World) : Prop :=
  ∃ (p : Int) (ga ca gb cb : Nat) (xs ys : List (Int × Int)), 1 ≤ p ∧ p ≤ 8 ∧ e = .returned (.tuple #[.int .i64 p, .slice (some ⟨ga, 0, none⟩) xs.length ca, .slice (some ⟨gb, 0, none⟩) ys.length cb]) ∧
    w'.ownsRow w.heap.size TM 2 (.slice (some ⟨ga, 0, none⟩) xs.length ca) xs.length (mcells xs) ∧ w'.ownsRow w.heap.size TM 2 (.slice (some ⟨gb, 0, none⟩) ys.length cb) ys.length (mcells ys) ∧ I64s xs ∧ I64s ys ∧ xs.length ≤ 20 ∧ ys.length ≤ 100 ∧ Below w.heap.size w w'
end Go.Proofs.Ytbcmepcjhobemaa
