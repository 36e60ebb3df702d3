/- Contract of the program's text of a term. -/
import Derived.Test.YtefmoljipbbmmaaDoorMerged17
import Derived.Test.YtefmoljipbbmmaaDoorMerged6
namespace Go.Proofs.YtefmoljipbbmmaaDoor
open Go.RowKit Go.Joins

end Go.Proofs.YtefmoljipbbmmaaDoor
