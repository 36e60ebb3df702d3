/- Contract of the reference's AlwaysOk. -/
import Derived.Test.YtbcmepcjhobemaaTruthT
import Derived.Deep.RegionWith
namespace Go.Proofs.Ytbcmepcjhobemaa
open Go.RowKit
attribute [local irreducible] holds tabN tabV holdsV sameV followsV alwaysV matterV
end Go.Proofs.Ytbcmepcjhobemaa
