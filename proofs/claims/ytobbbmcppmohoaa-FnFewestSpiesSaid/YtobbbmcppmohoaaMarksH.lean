/- Contracts over rows of marks: numbers laid into a row, and held there. -/
import Derived.Test.YtobbbmcppmohoaaDrawP
namespace Go.Proofs.Ytobbbmcppmohoaa
open Go.RowKit Go.Joins

/-- numbers laid one behind the other, two a mark -/
def lay (k0 n : Nat) : List (Int × Int) := (List.range n).map fun j => (((k0 + j * 2 : Nat) : Int), ((k0 + j * 2 + 1 : Nat) : Int))
theorem lay_length (k0 n : Nat) : (lay k0 n).length = n := by simp [lay]
theorem lay_succ (k0 n : Nat) : lay k0 (n + 1) = lay k0 n ++ [(((k0 + n * 2 : Nat) : Int), ((k0 + n * 2 + 1 : Nat) : Int))] := by simp [lay, List.range_succ]
theorem lay_get (k0 n j : Nat) (h : j < n) : (lay k0 n).getD j (0, 0) = (((k0 + j * 2 : Nat) : Int), ((k0 + j * 2 + 1 : Nat) : Int)) := by simp [lay, List.getD, h]
theorem lay_set (zs : List (Int × Int)) (k0 k : Nat) (hk : k < zs.length) :
    ((mcells (lay k0 k ++ zs.drop k)).set (k * 2) (.int .i64 ((k0 + k * 2 : Nat) : Int))).set (k * 2 + 1) (.int .i64 ((k0 + k * 2 + 1 : Nat) : Int)) = mcells (lay k0 (k + 1) ++ zs.drop (k + 1)) := by
  rw [List.drop_eq_getElem_cons hk, lay_succ, List.append_assoc]
  exact mcells_set (lay k0 k) (zs.drop (k + 1)) zs[k] (((k0 + k * 2 : Nat) : Int), ((k0 + k * 2 + 1 : Nat) : Int)) k (lay_length _ _)
theorem lay_I64 {k0 n : Nat} (h : k0 + n * 2 ≤ 4611686018427387904) : I64s (lay k0 n) := by
  intro m hm
  obtain ⟨j, hj, rfl⟩ := List.mem_map.1 hm
  have := List.mem_range.1 hj
  unfold I64
  dsimp only
  omega
attribute [local irreducible] lay


end Go.Proofs.Ytobbbmcppmohoaa
