/- Contracts of the reference's stories with one answer: clashes, only worlds, known people. -/
import Derived.Test.YtobbbmcppmohoaaOne
namespace Go.Proofs.Ytobbbmcppmohoaa
open Go.RowKit Go.Joins
attribute [local irreducible] holds tabN tabV holdsV sameV followsV alwaysV matterV claimOk mayT mayV ctabV ctabN storyV storyOk storyN storyT ctermV ctermL clashV onlyOk onlyN knownF knownL knownK cntK swl needB needF needL leastR leastV
end Go.Proofs.Ytobbbmcppmohoaa
