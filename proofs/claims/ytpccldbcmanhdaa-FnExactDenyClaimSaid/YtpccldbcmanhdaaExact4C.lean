/- Exact law of stage 4: the term of a claim, in memory of its own. No condition. -/
import Derived.Test.YtpccldbcmanhdaaClaimI
import Derived.Test.YtpccldbcmanhdaaClaimE
import Derived.Test.YtpccldbcmanhdaaFrameC
import Derived.Test.YtpccldbcmanhdaaMarksH
import Derived.Deep.RegionHeld3
import Derived.Deep.Cut

