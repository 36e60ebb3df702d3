/- Contract of the program's text of a term. -/
import Derived.Test.YtefmoljipbbmmaaMerged17
import Derived.Test.YtefmoljipbbmmaaMerged6
namespace Go.Proofs.Ytefmoljipbbmmaa
open Go.RowKit Go.Joins

end Go.Proofs.Ytefmoljipbbmmaa
