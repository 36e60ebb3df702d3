/- Contract of the reference's AlwaysOk. -/
import Derived.Test.YtpccldbcmanhdaaTruthT
import Derived.Deep.RegionWith
namespace Go.Proofs.Ytpccldbcmanhdaa
open Go.RowKit
attribute [local irreducible] holds tabN tabV holdsV sameV followsV alwaysV matterV
end Go.Proofs.Ytpccldbcmanhdaa
