/- Packets, in plain words. -/
import Derived.Test.YtkfbljbhdjnggaaNum
namespace Go.Proofs.Ytkfbljbhdjnggaa
open Go Go.RowKit
set_option linter.unusedSimpArgs false

/-- A packet: from, to, its bytes. -/
structure Pk where
  f : Int
  t : Int
  d : List UInt8
  deriving Inhabited, DecidableEq
def zPk : Pk := ⟨0, 0, []⟩
end Go.Proofs.Ytkfbljbhdjnggaa
