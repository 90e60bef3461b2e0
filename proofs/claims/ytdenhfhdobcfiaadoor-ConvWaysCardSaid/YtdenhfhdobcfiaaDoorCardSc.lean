/- For rows that list scalar's table: `ScEnv` out of what is listed is made by `sc_made`. Conditions: none. -/
import Derived.Test.YtdenhfhdobcfiaaDoorCardGen
import Derived.Test.YtdenhfhdobcfiaaDoorScP
namespace Go.Proofs.YtdenhfhdobcfiaaDoor
end Go.Proofs.YtdenhfhdobcfiaaDoor
