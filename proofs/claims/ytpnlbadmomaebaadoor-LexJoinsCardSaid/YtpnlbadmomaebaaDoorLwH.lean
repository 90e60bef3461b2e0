/- The landed layer 10 answers all that is asked of it. Conditions: LexEnv, within what is asked. -/
import Derived.Test.YtpnlbadmomaebaaDoorLwG
import Derived.Test.YtpnlbadmomaebaaDoorLexLaw
namespace Go.Proofs.YtpnlbadmomaebaaDoor
theorem lex_ok : LexOk := ⟨fun t most w e h => xall_any t most w e h, fun t w e h => pquote_any t w e h, fun n neg w e h => pdigits_any n neg w e h⟩
end Go.Proofs.YtpnlbadmomaebaaDoor
