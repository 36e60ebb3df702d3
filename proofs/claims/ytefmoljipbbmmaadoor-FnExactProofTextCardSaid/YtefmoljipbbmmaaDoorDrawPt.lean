/- The reference model's draw of a proof: what is changed in it, and what is handed back. -/
import Derived.Test.YtefmoljipbbmmaaDoorMerged23
import Derived.Test.YtefmoljipbbmmaaDoorOneU
import Derived.Deep.RegionLaw
namespace Go.Proofs.YtefmoljipbbmmaaDoor
open Go.RowKit Go.Joins
theorem found_small {p : Int} {qs : List QC} {ms : List (Int × Int)} : S64 (foundS (findF p (qs.map (·.2)) ms)) ∧ (foundS (findF p (qs.map (·.2)) ms)).length ≤ 15 ∧ I64 (foundG (findF p (qs.map (·.2)) ms)) := by
  cases h : findF p (qs.map (·.2)) ms with
  | none => exact ⟨fun s hs => (by cases hs), Nat.zero_le _, I64_small (by show (-100 : Int) ≤ 0; omega) (by show (0 : Int) ≤ 100; omega)⟩
  | some t =>
    have hp := find_proof h
    obtain ⟨h1, h2, h3⟩ := provesF_iff.1 hp
    have hl := (proofV_iff.1 h3).1
    unfold findF at h
    rw [h1, h2, if_pos (show (true && true) = true from rfl)] at h
    have hf := proves_fine h1 h2 (grow_ok _ _ _ h)
    rw [PT.flat_len] at hl
    exact ⟨flat_S64 t 0 hf (by omega), by show (t.flat 0).length ≤ 15; rw [PT.flat_len]; exact hl, I64_tgt hf (by omega)⟩
attribute [local irreducible] holds tabN tabV holdsV sameV followsV alwaysV matterV claimOk mayT mayV ctabV ctabN storyV storyOk storyN storyT ctermV ctermL wlp vals findF foundS foundG St11
end Go.Proofs.YtefmoljipbbmmaaDoor
