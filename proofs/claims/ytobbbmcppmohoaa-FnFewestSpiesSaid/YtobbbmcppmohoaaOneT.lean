/- Contracts of the reference's stories with one answer: needless claims. -/
import Derived.Test.YtobbbmcppmohoaaOneS
namespace Go.Proofs.Ytobbbmcppmohoaa
open Go.RowKit Go.Joins
attribute [local irreducible] holds tabN tabV holdsV sameV followsV alwaysV matterV claimOk mayT mayV ctabV ctabN storyV storyOk storyN storyT ctermV ctermL clashV onlyOk onlyN knownF knownL knownK cntK swl needL leastR leastV ccells
theorem RdStory.cells_at {w w' : World} {B b off n cap : Nat} {qs : List QC} (h : RdStory w B (.slice (some ⟨b, off, none⟩) n cap) qs) (hb : ∀ k, k < B → w'.heap[k]? = w.heap[k]?) : ∀ (j : Nat) (u : Value), (ccells qs)[j]? = some u → w'.cell? ((⟨b, off, none⟩ : Addr).add j) = some u := (h.below hb).cells
end Go.Proofs.Ytobbbmcppmohoaa
