/- Contract of the program's text of a term. -/
import Derived.Test.YtilgkheefhobgaaMerged17
import Derived.Test.YtilgkheefhobgaaMerged6
namespace Go.Proofs.Ytilgkheefhobgaa
open Go.RowKit Go.Joins

end Go.Proofs.Ytilgkheefhobgaa
