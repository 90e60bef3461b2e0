/- Several texts in one: CardSc. What each proves, and its conditions, stands at its own head. -/
import Derived.Test.YtpbhokmpbcmdcaaGreatDoorPke6
import Derived.Test.YtpbhokmpbcmdcaaGreatDoorPke36
/- For rows that list scalar's table: `ScEnv` out of what is listed is made by `sc_made`. Conditions: none. -/
namespace Go.Proofs.YtpbhokmpbcmdcaaGreatDoor
end Go.Proofs.YtpbhokmpbcmdcaaGreatDoor
