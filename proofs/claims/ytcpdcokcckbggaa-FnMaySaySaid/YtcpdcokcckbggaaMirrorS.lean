/- Contract of the reference model's mirrored term. -/
import Derived.Test.YtcpdcokcckbggaaMirror
import Derived.Test.YtcpdcokcckbggaaMarksS
namespace Go.Proofs.Ytcpdcokcckbggaa
open Go.RowKit Go.Joins
end Go.Proofs.Ytcpdcokcckbggaa
