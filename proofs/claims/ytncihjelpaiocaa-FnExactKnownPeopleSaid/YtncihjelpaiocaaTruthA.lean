/- Contract of the reference's AlwaysOk. -/
import Derived.Test.YtncihjelpaiocaaTruthT
import Derived.Deep.RegionWith
namespace Go.Proofs.Ytncihjelpaiocaa
open Go.RowKit
attribute [local irreducible] holds tabN tabV holdsV sameV followsV alwaysV matterV
end Go.Proofs.Ytncihjelpaiocaa
