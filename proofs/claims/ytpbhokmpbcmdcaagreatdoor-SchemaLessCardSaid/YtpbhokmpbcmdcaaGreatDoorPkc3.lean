/- Several texts in one: LyNd, LySm. What each proves, and its conditions, stands at its own head. -/
import Derived.Shelf.Strconv.Itoa1
import Derived.Test.YtpbhokmpbcmdcaaGreatDoorChecked
/- A function of the library, with all that it calls, laid at this seat: internal/strconv.numDigits. Conditions: none. -/
namespace Go.Proofs.YtpbhokmpbcmdcaaGreatDoor
open Go.Shelf

end Go.Proofs.YtpbhokmpbcmdcaaGreatDoor

/- A function of the library, with all that it calls, laid at this seat: internal/strconv.small. Conditions: none. -/
namespace Go.Proofs.YtpbhokmpbcmdcaaGreatDoor
open Go.Shelf

end Go.Proofs.YtpbhokmpbcmdcaaGreatDoor
