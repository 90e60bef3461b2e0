/- For rows that list scalar's table: `ScEnv` out of what is listed is made by `sc_made`. Conditions: none. -/
import Derived.Test.YtepkbljhjhcmgaaDoorCardGen
import Derived.Test.YtepkbljhjhcmgaaDoorScP
namespace Go.Proofs.YtepkbljhjhcmgaaDoor
end Go.Proofs.YtepkbljhjhcmgaaDoor
