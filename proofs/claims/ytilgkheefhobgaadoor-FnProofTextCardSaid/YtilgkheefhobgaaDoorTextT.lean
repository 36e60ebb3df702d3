/- Contract of the program's text of a term. -/
import Derived.Test.YtilgkheefhobgaaDoorMerged17
import Derived.Test.YtilgkheefhobgaaDoorMerged6
namespace Go.Proofs.YtilgkheefhobgaaDoor
open Go.RowKit Go.Joins

end Go.Proofs.YtilgkheefhobgaaDoor
