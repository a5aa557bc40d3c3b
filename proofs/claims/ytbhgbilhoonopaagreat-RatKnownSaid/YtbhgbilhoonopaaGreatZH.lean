/- litmuslaw02.divs. -/
import Derived.Test.YtbhgbilhoonopaaGreatZD
namespace Go.Proofs.YtbhgbilhoonopaaGreat
open Go.RowKit
set_option linter.unusedVariables false
set_option maxRecDepth 100000

section
variable {w : World}
set_option maxHeartbeats 4000000
end

end Go.Proofs.YtbhgbilhoonopaaGreat

/- litmuslaw02.works: the chapter's examples. -/
namespace Go.Proofs.YtbhgbilhoonopaaGreat
open Go.RowKit
set_option linter.unusedVariables false
set_option maxRecDepth 100000

end Go.Proofs.YtbhgbilhoonopaaGreat
