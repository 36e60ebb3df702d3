/- Contracts of the laws' own helpers over lists of numbers. -/
import Derived.Test.YtbcmepcjhobemaaPeople
import Derived.Lib.SmallJoins
namespace Go.Proofs.Ytbcmepcjhobemaa
open Go.RowKit Go.Joins

def ints (zs : List Int) : List Value := zs.map (Value.int .i64)
theorem grownBy_setCell {w : World} (g j : Nat) (u : Value) : w.grownBy (w.setCell ⟨g, j, none⟩ u) (some g) :=
  ⟨rfl, rfl, rfl, by simp [World.setCell], fun k _ hne => Below.heap_setCell _ _ _ _ (by intro e; exact hne (by rw [e]))⟩
theorem grownBy_trans {a b c : World} {row : Option Nat} (h : a.grownBy b row) (k : b.grownBy c row) : a.grownBy c row :=
  ⟨k.os.trans h.os, k.tape.trans h.tape, k.output.trans h.output, Nat.le_trans h.size k.size, fun i hi hne => (k.block i (Nat.lt_of_lt_of_le hi h.size) hne).trans (h.block i hi hne)⟩
theorem grownBy_drewN {a b : World} {row : Option Nat} (h : a.grownBy b row) (n : Nat) : a.grownBy (b.drewN n) row :=
  grownBy_trans h ⟨rfl, rfl, rfl, Nat.le_refl _, fun _ _ _ => rfl⟩

/-! ### equality of two lists of numbers -/
theorem list_eq_of {xs ys : List Int} (hl : xs.length = ys.length) (h : ∀ j, j < xs.length → xs.getD j 0 = ys.getD j 0) : xs = ys := by
  refine List.ext_getElem hl fun j h1 h2 => ?_
  have := h j h1
  simpa [List.getD, h1, h2] using this
theorem ints_set_mid (A R : List Int) (z x : Int) (k : Nat) (hk : A.length = k) : (ints (A ++ z :: R)).set k (.int .i64 x) = ints (A ++ x :: R) := by
  subst hk
  have h1 : (A.map (Value.int .i64)).length = A.length := by simp
  unfold ints
  rw [List.map_append, List.map_append, List.map_cons, List.map_cons, List.set_append_right _ _ (by omega), h1, Nat.sub_self]
  rfl
theorem mark_set (zs : List Int) (k0 k : Nat) (hk : k < zs.length) :
    (ints (((List.range k).map fun j => ((k0 + j : Nat) : Int)) ++ zs.drop k)).set k (.int .i64 ((k0 + k : Nat) : Int)) = ints (((List.range (k+1)).map fun j => ((k0 + j : Nat) : Int)) ++ zs.drop (k + 1)) := by
  rw [List.drop_eq_getElem_cons hk, List.range_succ, List.map_append, List.append_assoc]
  exact ints_set_mid _ _ _ _ _ (by simp)
theorem copy_set (zs : List Int) (n k : Nat) (hn : zs.length = n) (hk : k < n) :
    (ints (zs.take k ++ List.replicate (n - k) 0)).set k (.int .i64 (zs.getD k 0)) = ints (zs.take (k + 1) ++ List.replicate (n - (k + 1)) 0) := by
  have hr : List.replicate (n - k) (0 : Int) = 0 :: List.replicate (n - (k + 1)) 0 := by
    rw [show n - k = (n - (k + 1)) + 1 from by omega]; rfl
  rw [hr, List.take_succ_eq_append_getElem (by omega), show zs.getD k 0 = zs[k] from by simp [List.getD, show k < zs.length by omega], List.append_assoc]
  exact ints_set_mid _ _ _ _ _ (by simp; omega)








end Go.Proofs.Ytbcmepcjhobemaa
