/- Lists of texts that are alike (commonsbook's SameTexts). -/
import Derived.Test.YtkfbljbhdjnggaaRow
import Derived.BigQuiet
namespace Go.Proofs.Ytkfbljbhdjnggaa
open Go Go.RowKit
set_option maxRecDepth 100000
set_option maxHeartbeats 1000000

end Go.Proofs.Ytkfbljbhdjnggaa
