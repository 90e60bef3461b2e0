/- For rows that list scalar's table: `ScEnv` out of what is listed is made by `sc_made`. Conditions: none. -/
import Derived.Test.YtifbkaknfcghiaaDoorCardGen
import Derived.Test.YtifbkaknfcghiaaDoorScP
namespace Go.Proofs.YtifbkaknfcghiaaDoor
end Go.Proofs.YtifbkaknfcghiaaDoor
