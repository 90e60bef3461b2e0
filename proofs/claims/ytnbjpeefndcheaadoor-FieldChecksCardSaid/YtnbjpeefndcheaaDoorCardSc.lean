/- For rows that list scalar's table: `ScEnv` out of what is listed is made by `sc_made`. Conditions: none. -/
import Derived.Test.YtnbjpeefndcheaaDoorCardGen
import Derived.Test.YtnbjpeefndcheaaDoorScP
namespace Go.Proofs.YtnbjpeefndcheaaDoor
end Go.Proofs.YtnbjpeefndcheaaDoor
