/- Contract of the reference's AlwaysOk. -/
import Derived.Test.YtemldnjpcnogpaaTruthT
import Derived.Deep.RegionWith
namespace Go.Proofs.Ytemldnjpcnogpaa
open Go.RowKit
attribute [local irreducible] holds tabN tabV holdsV sameV followsV alwaysV matterV
end Go.Proofs.Ytemldnjpcnogpaa
