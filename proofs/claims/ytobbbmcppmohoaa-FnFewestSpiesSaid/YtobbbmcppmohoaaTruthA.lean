/- Contract of the reference's AlwaysOk. -/
import Derived.Test.YtobbbmcppmohoaaTruthT
import Derived.Deep.RegionWith
namespace Go.Proofs.Ytobbbmcppmohoaa
open Go.RowKit
attribute [local irreducible] holds tabN tabV holdsV sameV followsV alwaysV matterV
end Go.Proofs.Ytobbbmcppmohoaa
