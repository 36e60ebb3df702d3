/- Contracts over rows of marks: the exact laws' copies, marks laid and held. -/
import Derived.Test.YtcpdcokcckbggaaMarksB
namespace Go.Proofs.Ytcpdcokcckbggaa
open Go.RowKit Go.Joins

theorem Try.infoM : (Try.prog.info? 31).map (fun i => (i.zero, i.size, i.bytes)) = some (some (.agg #[.int .i64 0, .int .i64 0]), 2, 16) := by kernel_rfl

theorem only_of_below {a w : World} (h : Below a.heap.size a w) (row : Option Nat) : a.grownBy w row := ⟨h.os, h.tape, h.output, h.size, fun i hi _ => h.block i hi⟩
theorem own_below {w w' : World} {base n size : Nat} {e : TypeId} {v : Value} {xs : List Value} (h : w.ownsRow base e size v n xs) (hb : Below w.heap.size w w') : w'.ownsRow base e size v n xs := by
  refine h.kept (only_of_below hb none) ?_
  cases v.ownBlock with
  | none => exact .inl rfl
  | some g => exact .inr (by simp)
theorem below_undrew {B : Nat} {w w' : World} (h : Below B w.drew w') : Below B w w' := ⟨h.os, h.tape, h.output, h.size, h.block⟩

/-! ### cells set -/
theorem mcells_set (A R : List (Int × Int)) (m m' : Int × Int) (k : Nat) (hk : A.length = k) :
    ((mcells (A ++ m :: R)).set (k * 2) (.int .i64 m'.1)).set (k * 2 + 1) (.int .i64 m'.2) = mcells (A ++ m' :: R) := by
  subst hk
  have hl := mcells_length A
  rw [mcells_append, mcells_append, List.set_append_right _ _ (by omega), List.set_append_right _ _ (by omega), hl]
  have e1 : A.length * 2 - A.length * 2 = 0 := by omega
  have e2 : A.length * 2 + 1 - A.length * 2 = 1 := by omega
  rw [e1, e2]
  rfl
theorem mcopy_set (zs : List (Int × Int)) (n k : Nat) (hn : zs.length = n) (hk : k < n) :
    ((mcells (zs.take k ++ List.replicate (n - k) (0, 0))).set (k * 2) (.int .i64 (zs.getD k (0, 0)).1)).set (k * 2 + 1) (.int .i64 (zs.getD k (0, 0)).2) = mcells (zs.take (k + 1) ++ List.replicate (n - (k + 1)) (0, 0)) := by
  have hr : List.replicate (n - k) ((0 : Int), (0 : Int)) = (0, 0) :: List.replicate (n - (k + 1)) (0, 0) := by
    rw [show n - k = (n - (k + 1)) + 1 from by omega]; rfl
  rw [hr, take_snoc (0, 0) zs k (by omega), List.append_assoc]
  exact mcells_set _ _ _ _ _ (by simp; omega)
theorem mcells_rep (n : Nat) : mcells (List.replicate n (0, 0)) = List.replicate (n * 2) (Value.int .i64 0) := by
  induction n with
  | zero => rfl
  | succ n ih => rw [show (n + 1) * 2 = n * 2 + 1 + 1 from by omega, List.replicate_succ, List.replicate_succ, List.replicate_succ, ← ih]; rfl
theorem mcells_zero (n : Nat) : (madeCells #[Value.int .i64 0, Value.int .i64 0] (n * 2)).toList = mcells (List.replicate n (0, 0)) := by
  rw [mcells_rep]
  refine List.ext_getElem (by simp [madeCells]) fun i h1 h2 => ?_
  rw [List.getElem_replicate]
  have : i % 2 = 0 ∨ i % 2 = 1 := by omega
  rcases this with h | h <;> simp [madeCells, h]



end Go.Proofs.Ytcpdcokcckbggaa
