/- Several texts in one: LyFb. What each proves, and its conditions, stands at its own head. -/
import Derived.Shelf.Strconv.Itoa2
import Derived.Test.YtpbhokmpbcmdcaaGreatDoorChecked
/- A function of the library, with all that it calls, laid at this seat: internal/strconv.formatBase10. Conditions: none. -/
namespace Go.Proofs.YtpbhokmpbcmdcaaGreatDoor
open Go.Shelf

end Go.Proofs.YtpbhokmpbcmdcaaGreatDoor
