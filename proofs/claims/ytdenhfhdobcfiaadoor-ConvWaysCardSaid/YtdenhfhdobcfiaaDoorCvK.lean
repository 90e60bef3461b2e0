/- Layer 13's three-way law beside what an array that came in reads as (imports only). Conditions: none. -/
import Derived.Test.YtdenhfhdobcfiaaDoorCvP
import Derived.Test.YtdenhfhdobcfiaaDoorAggIn
