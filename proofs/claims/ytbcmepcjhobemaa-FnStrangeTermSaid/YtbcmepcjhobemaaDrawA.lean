/- The reference model's draws of questions. -/
import Derived.Test.YtbcmepcjhobemaaDrawH
import Derived.Test.YtbcmepcjhobemaaDrawP
import Derived.Test.YtbcmepcjhobemaaAsk
import Derived.OwnWalk
namespace Go.Proofs.Ytbcmepcjhobemaa
open Go.RowKit Go.Joins
/-- what a draw of a number of people, a person, a row of marks and a world hands back -/
def OutA (w : World) (e : Ending) (w' : World) : Prop :=
  ∃ (p k : Int) (g cap : Nat) (ms : List (Int × Int)) (x : Int), 1 ≤ p ∧ p ≤ 4 ∧ 0 ≤ k ∧ k ≤ 8 ∧ e = .returned (.tuple #[.int .i64 p, .int .i64 k, .slice (some ⟨g, 0, none⟩) ms.length cap, .int .i64 x]) ∧ w'.ownsRow w.heap.size TM 2 (.slice (some ⟨g, 0, none⟩) ms.length cap) ms.length (mcells ms) ∧ I64s ms ∧ ms.length ≤ 20 ∧ 0 ≤ x ∧ x ≤ 100 ∧ Below w.heap.size w w'
/-- what a draw of a number of people, a person and a row of marks hands back -/
def OutB (w : World) (e : Ending) (w' : World) : Prop :=
  ∃ (p k : Int) (g cap : Nat) (ms : List (Int × Int)), 1 ≤ p ∧ p ≤ 4 ∧ 0 ≤ k ∧ k ≤ 8 ∧ e = .returned (.tuple #[.int .i64 p, .int .i64 k, .slice (some ⟨g, 0, none⟩) ms.length cap]) ∧ w'.ownsRow w.heap.size TM 2 (.slice (some ⟨g, 0, none⟩) ms.length cap) ms.length (mcells ms) ∧ I64s ms ∧ ms.length ≤ 30 ∧ Below w.heap.size w w'
/-- what a draw of a number of people, a list of people and a row of marks hands back -/
def OutLB (w : World) (e : Ending) (w' : World) : Prop :=
  ∃ (p : Int) (gl cl g cap : Nat) (zs : List Int) (ms : List (Int × Int)), 1 ≤ p ∧ p ≤ 4 ∧ e = .returned (.tuple #[.int .i64 p, .slice (some ⟨gl, 0, none⟩) zs.length cl, .slice (some ⟨g, 0, none⟩) ms.length cap]) ∧
    w'.ownsRow w.heap.size 3 1 (.slice (some ⟨gl, 0, none⟩) zs.length cl) zs.length (ints zs) ∧ zs.length ≤ 6 ∧ (∀ z ∈ zs, 0 ≤ z ∧ z ≤ 64) ∧ w'.ownsRow w.heap.size TM 2 (.slice (some ⟨g, 0, none⟩) ms.length cap) ms.length (mcells ms) ∧ I64s ms ∧ ms.length ≤ 20 ∧ Below w.heap.size w w'
theorem I64s_ctermV7 {p k : Int} {ms : List (Int × Int)} (hi : I64s ms) : I64s (ctermV p (k, ms)) := by
  cases h : claimOk p (k, ms) with
  | false => rw [ctermV_no h]; intro m hm; simp at hm
  | true =>
    obtain ⟨K, _, rfl, hK, _⟩ := claim_parts h
    rw [ctermV_yes h]
    exact I64s_cterm7 (I64_small (by omega) (by omega)) hi
theorem div39 {z : Int} (h0 : 0 ≤ z) (h1 : z < 40) : 0 ≤ z / 39 ∧ z / 39 ≤ 1 := by omega
end Go.Proofs.Ytbcmepcjhobemaa
