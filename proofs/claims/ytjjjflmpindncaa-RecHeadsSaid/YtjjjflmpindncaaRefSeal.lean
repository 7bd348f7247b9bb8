/- The document's own answers to seals and stamps (commonsref1): what each call answers. -/
import Derived.Test.YtjjjflmpindncaaStamp
import Derived.Deep.RegionHeld3
namespace Go.Proofs.Ytjjjflmpindncaa
open Go Go.RowKit
set_option maxRecDepth 100000
set_option maxHeartbeats 2000000

theorem Try.info5 : (Try.prog.info? 5).map (fun i => (i.zero, i.size, i.bytes)) = some (some (.int .u8 0), 1, 1) := by kernel_rfl
end Go.Proofs.Ytjjjflmpindncaa
