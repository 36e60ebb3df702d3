/- Contract of the reference's AlikeOk. -/
import Derived.Test.YtbcmepcjhobemaaAsk
namespace Go.Proofs.Ytbcmepcjhobemaa
open Go.RowKit Go.Joins
attribute [local irreducible] holds tabN tabV holdsV sameV followsV alwaysV matterV claimOk mayT mayV ctabV ctabN storyV storyOk storyN storyT ctermV ctermL ansN inOk chainL chainOk chainV alikeV liesN mcells
end Go.Proofs.Ytbcmepcjhobemaa
