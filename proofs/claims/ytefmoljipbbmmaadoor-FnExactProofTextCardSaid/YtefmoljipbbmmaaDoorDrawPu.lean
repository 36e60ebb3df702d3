/- The reference model's draws of proofs. -/
import Derived.Test.YtefmoljipbbmmaaDoorDrawPt
namespace Go.Proofs.YtefmoljipbbmmaaDoor
open Go.RowKit Go.Joins
def OutPP (w : World) (e : Ending) (w' : World) : Prop :=
  ∃ (p : Int) (v : Value) (qs : List QC) (g cap : Nat) (ms : List (Int × Int)), 1 ≤ p ∧ p ≤ 4 ∧ e = .returned (.tuple #[.int .i64 p, v, .slice (some ⟨g, 0, none⟩) ms.length cap]) ∧ StoryIn w' w.heap.size w.heap.size v qs ∧ QSmall qs ∧ qs.length ≤ 7 ∧
    w'.ownsRow w.heap.size TM 2 (.slice (some ⟨g, 0, none⟩) ms.length cap) ms.length (mcells ms) ∧ I64s ms ∧ ms.length ≤ 20 ∧ Below w.heap.size w w'
def OutPQ (w : World) (e : Ending) (w' : World) : Prop :=
  ∃ (p : Int) (v : Value) (qs : List QC) (g cap : Nat) (ms : List (Int × Int)) (fi : Int) (pv : Value) (sp : List Sp3), 1 ≤ p ∧ p ≤ 4 ∧ e = .returned (.tuple #[.int .i64 p, v, .slice (some ⟨g, 0, none⟩) ms.length cap, .agg #[.int .i64 fi, pv]]) ∧ StoryIn w' w.heap.size w.heap.size v qs ∧ QSmall qs ∧ qs.length ≤ 7 ∧
    w'.ownsRow w.heap.size TM 2 (.slice (some ⟨g, 0, none⟩) ms.length cap) ms.length (mcells ms) ∧ I64s ms ∧ ms.length ≤ 20 ∧ w'.ownsRow w.heap.size TSp 3 pv sp.length (scells sp) ∧ S64 sp ∧ sp.length ≤ 16 ∧ I64 fi ∧ Below w.heap.size w w'
def OutPR (w : World) (e : Ending) (w' : World) : Prop :=
  ∃ (p : Int) (v : Value) (qs : List QC) (g cap : Nat) (ms : List (Int × Int)) (s : List UInt8), 1 ≤ p ∧ p ≤ 4 ∧ e = .returned (.tuple #[.int .i64 p, v, .slice (some ⟨g, 0, none⟩) ms.length cap, sv s]) ∧ StoryIn w' w.heap.size w.heap.size v qs ∧ QSmall qs ∧ qs.length ≤ 7 ∧
    w'.ownsRow w.heap.size TM 2 (.slice (some ⟨g, 0, none⟩) ms.length cap) ms.length (mcells ms) ∧ I64s ms ∧ ms.length ≤ 20 ∧ s.length ≤ 1000 ∧ Below w.heap.size w w'
theorem ext_take11 (T : List UInt8) (k : Nat) : (⟨T.toArray⟩ : ByteArray).extract 0 k = ⟨(T.take k).toArray⟩ := by
  apply ByteArray.ext
  simp
theorem ext_drop11 (T : List UInt8) (k : Nat) : (⟨T.toArray⟩ : ByteArray).extract k T.length = ⟨(T.drop k).toArray⟩ := by
  apply ByteArray.ext
  simp
  exact List.take_of_length_le (by simp)
abbrev eightO : Obj := .cells #[sv [], sv [40], sv [41], sv [44], sv [42], sv [48], sv [97, 40, 42, 44, 42, 41], sv [101]] 9
def eightL (Z : Nat) : List UInt8 := ([[], [40], [41], [44], [42], [48], [97, 40, 42, 44, 42, 41], [101]] : List (List UInt8)).getD Z []
theorem eight (W : World) (Z : Nat) (hZ : Z < 8) : (eightL Z).length ≤ 6 ∧ (W.alloc eightO).cell? ⟨W.heap.size, Z, none⟩ = some (sv (eightL Z)) ∧ (#[sv [], sv [40], sv [41], sv [44], sv [42], sv [48], sv [97, 40, 42, 44, 42, 41], sv [101]] : Array Value)[Z]? = some (sv (eightL Z)) := by
  have h : Z = 0 ∨ Z = 1 ∨ Z = 2 ∨ Z = 3 ∨ Z = 4 ∨ Z = 5 ∨ Z = 6 ∨ Z = 7 := by omega
  rcases h with rfl | rfl | rfl | rfl | rfl | rfl | rfl | rfl <;> exact ⟨by decide, World.cell?_alloc_mark W _ _ _ _, rfl⟩
attribute [local irreducible] holds tabN tabV holdsV sameV followsV alwaysV matterV claimOk mayT mayV ctabV ctabN storyV storyOk storyN storyT ctermV ctermL wlp vals findF foundS foundG provesF tbF
end Go.Proofs.YtefmoljipbbmmaaDoor
