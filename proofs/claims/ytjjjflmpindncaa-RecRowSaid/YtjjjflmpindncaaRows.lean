/-
  No cell of these rows narrows 'for every input' (looked for: loops, veiled, ifaces, maps, wideKeys, modest, calm, conditions, laid).
  DERIVED. THE GIVEN ROWS OF THIS SEAT. 4 by the template 'for every input the law returns true; each argument reads behind the call as it read before'; 0 by the template 'total and deterministic' (their statements: YtjjjflmpindncaaTotals.lean).
  GIVEN WITH THE SEED: the statements are not yours to turn. If you find one false, say at which input.
  Laid BY PROGRAM, IN A SANDBOX (cutbox-rows.mjs): the forced cells as the released guide's own fill.sh prints them over the translation e6dd3e4a1be6cb67… (all of the seat's roots in one cut). By AI agents, Wed Nov 11 2026. No macro, syntax, notation, axiom, sorry.
-/
import Derived.Test.YtjjjflmpindncaaChecked
import GoSem.Claim
import GoSem.ClaimJoined
import GoSem.ClaimMapViews
import Derived.JoinedTies
import Derived.KernelRfl
namespace Go.Proofs.Ytjjjflmpindncaa
/- THE CELL 'sum', in the pinned program and in every row, IS THE sha256 OF THE DUMP (.gsa) THAT YtjjjflmpindncaaProg.lean LOADS. Nothing in Lean hashes anything: it is a label: what it is worth is what the hold of that sum in a sandbox is worth. -/
noncomputable def Try.pinned : Pinned := { name := "ytjjjflmpindncaa", sum := "e6dd3e4a1be6cb67bda2b930b43fbc566fdcbb9a495d1b921356a8cbd09cbfb5", checked := Try.checked }
namespace Rows
def none {H : Type} : Left H := { results := [], args := [] }

/-- 'commonslaw11.RecBack': WHATEVER THE INPUT: true; the input reads as it did. -/
def recBackSpec : ChangeSpec := { name := "recBack", fn := fun _ => fun
  | [d1, d2, d3, d4] => { results := [.lit (.bool true)], args := [d1, d2, d3, d4] }
  | _ => none }
def recBackRow : OpenClaim := { program := "ytjjjflmpindncaa", sum := "e6dd3e4a1be6cb67bda2b930b43fbc566fdcbb9a495d1b921356a8cbd09cbfb5", func := "commons/commonslaw11.RecBack", spec := "recBack", inPlace := ["internal/abi.NoEscape", "internal/bytealg.MakeNoZero"], apart := false }
def RecBackSaid : Prop := recBackRow.holds Try.pinned (OpenSpec.ofChange recBackSpec)

/-- ITS FALSE NEIGHBOUR: 'it returns false'. Refute it at one input. -/
def recBackWrong : ChangeSpec := { name := "recBack", fn := fun _ => fun
  | [d1, d2, d3, d4] => { results := [.lit (.bool false)], args := [d1, d2, d3, d4] }
  | _ => none }
def RecBackWrongFalsely : Prop := recBackRow.holds Try.pinned (OpenSpec.ofChange recBackWrong)

/-- 'commonslaw11.RecMost': WHATEVER THE INPUT: true; the input reads as it did. -/
def recMostSpec : ChangeSpec := { name := "recMost", fn := fun _ => fun
  | [d] => { results := [.lit (.bool true)], args := [d] }
  | _ => none }
def recMostRow : OpenClaim := { program := "ytjjjflmpindncaa", sum := "e6dd3e4a1be6cb67bda2b930b43fbc566fdcbb9a495d1b921356a8cbd09cbfb5", func := "commons/commonslaw11.RecMost", spec := "recMost", inPlace := ["internal/abi.NoEscape", "internal/bytealg.MakeNoZero"], apart := false }
def RecMostSaid : Prop := recMostRow.holds Try.pinned (OpenSpec.ofChange recMostSpec)

/-- ITS FALSE NEIGHBOUR: 'it returns false'. Refute it at one input. -/
def recMostWrong : ChangeSpec := { name := "recMost", fn := fun _ => fun
  | [d] => { results := [.lit (.bool false)], args := [d] }
  | _ => none }
def RecMostWrongFalsely : Prop := recMostRow.holds Try.pinned (OpenSpec.ofChange recMostWrong)

/-- 'commonslaw11.RecHeads': WHATEVER THE INPUT: true; the input reads as it did. -/
def recHeadsSpec : ChangeSpec := { name := "recHeads", fn := fun _ => fun
  | [d1, d2, d3] => { results := [.lit (.bool true)], args := [d1, d2, d3] }
  | _ => none }
def recHeadsRow : OpenClaim := { program := "ytjjjflmpindncaa", sum := "e6dd3e4a1be6cb67bda2b930b43fbc566fdcbb9a495d1b921356a8cbd09cbfb5", func := "commons/commonslaw11.RecHeads", spec := "recHeads", inPlace := ["internal/abi.NoEscape", "internal/bytealg.MakeNoZero"], apart := false }
def RecHeadsSaid : Prop := recHeadsRow.holds Try.pinned (OpenSpec.ofChange recHeadsSpec)

/-- ITS FALSE NEIGHBOUR: 'it returns false'. Refute it at one input. -/
def recHeadsWrong : ChangeSpec := { name := "recHeads", fn := fun _ => fun
  | [d1, d2, d3] => { results := [.lit (.bool false)], args := [d1, d2, d3] }
  | _ => none }
def RecHeadsWrongFalsely : Prop := recHeadsRow.holds Try.pinned (OpenSpec.ofChange recHeadsWrong)

/-- 'commonslaw11.RecRow': WHATEVER THE INPUT: true; the input reads as it did. -/
def recRowSpec : ChangeSpec := { name := "recRow", fn := fun _ => fun
  | [d] => { results := [.lit (.bool true)], args := [d] }
  | _ => none }
def recRowRow : OpenClaim := { program := "ytjjjflmpindncaa", sum := "e6dd3e4a1be6cb67bda2b930b43fbc566fdcbb9a495d1b921356a8cbd09cbfb5", func := "commons/commonslaw11.RecRow", spec := "recRow", inPlace := ["internal/abi.NoEscape", "internal/bytealg.MakeNoZero"], apart := false }
def RecRowSaid : Prop := recRowRow.holds Try.pinned (OpenSpec.ofChange recRowSpec)

/-- ITS FALSE NEIGHBOUR: 'it returns false'. Refute it at one input. -/
def recRowWrong : ChangeSpec := { name := "recRow", fn := fun _ => fun
  | [d] => { results := [.lit (.bool false)], args := [d] }
  | _ => none }
def RecRowWrongFalsely : Prop := recRowRow.holds Try.pinned (OpenSpec.ofChange recRowWrong)

/- THE SECOND FORM. 'bulk': how many values and letters a reading holds, each counted each time it is reached (what is shared counts as often as it is met; a slice's spare places count too). A statement '..UptoSaid' is the law's where the arguments, and the package variables that the reading takes, are together of bulk at most 1048576: NARROWER than '..Said'. Prove '..Said' where nothing that the law and all that it calls make is longer than what came in: it says more and counts as full. Else prove '..UptoSaid'. A law counts once. -/
mutual
def uptoBulk {H : Type} : DataW H → Nat
  | .lit (.string bytes) => bytes.length + 1
  | .lit _ => 1
  | .nil => 1
  | .ptr d => uptoBulk d + 1
  | .slice elems spare => uptoBulkAll elems + uptoBulkAll spare + 1
  | .agg parts => uptoBulkAll parts + 1
  | .iface _ d => uptoBulk d + 1
  | .map entries => uptoBulkEntries entries + 1
  | .held _ => 1
def uptoBulkAll {H : Type} : List (DataW H) → Nat
  | [] => 0
  | d :: r => uptoBulk d + uptoBulkAll r
def uptoBulkEntries {H : Type} : List (Lit × DataW H) → Nat
  | [] => 0
  | x :: r => uptoBulkEntry x + uptoBulkEntries r
def uptoBulkEntry {H : Type} : Lit × DataW H → Nat
  | (.string bytes, d) => bytes.length + uptoBulk d + 1
  | (_, d) => uptoBulk d + 1
 end
def uptoSmall : (H : Type) → List (DataW H) → Bool := fun _ ds => decide (uptoBulkAll ds ≤ 1048576)
def OpenSpec.upto (s : _root_.Go.ChangeSpec) : _root_.Go.OpenSpec := { _root_.Go.OpenSpec.ofChange s with cond := some uptoSmall }

/-- 'commonslaw11.RecBack', WHERE WHAT IT READS IS OF BULK AT MOST 1048576: true; the input reads as it did. -/
def recBackUptoRow : OpenClaim := { program := "ytjjjflmpindncaa", sum := "e6dd3e4a1be6cb67bda2b930b43fbc566fdcbb9a495d1b921356a8cbd09cbfb5", func := "commons/commonslaw11.RecBack", spec := "recBack", inPlace := ["internal/abi.NoEscape", "internal/bytealg.MakeNoZero"], apart := false, narrowed := true }
def RecBackUptoSaid : Prop := recBackUptoRow.holds Try.pinned (OpenSpec.upto recBackSpec)

/-- 'commonslaw11.RecMost', WHERE WHAT IT READS IS OF BULK AT MOST 1048576: true; the input reads as it did. -/
def recMostUptoRow : OpenClaim := { program := "ytjjjflmpindncaa", sum := "e6dd3e4a1be6cb67bda2b930b43fbc566fdcbb9a495d1b921356a8cbd09cbfb5", func := "commons/commonslaw11.RecMost", spec := "recMost", inPlace := ["internal/abi.NoEscape", "internal/bytealg.MakeNoZero"], apart := false, narrowed := true }
def RecMostUptoSaid : Prop := recMostUptoRow.holds Try.pinned (OpenSpec.upto recMostSpec)

/-- 'commonslaw11.RecHeads', WHERE WHAT IT READS IS OF BULK AT MOST 1048576: true; the input reads as it did. -/
def recHeadsUptoRow : OpenClaim := { program := "ytjjjflmpindncaa", sum := "e6dd3e4a1be6cb67bda2b930b43fbc566fdcbb9a495d1b921356a8cbd09cbfb5", func := "commons/commonslaw11.RecHeads", spec := "recHeads", inPlace := ["internal/abi.NoEscape", "internal/bytealg.MakeNoZero"], apart := false, narrowed := true }
def RecHeadsUptoSaid : Prop := recHeadsUptoRow.holds Try.pinned (OpenSpec.upto recHeadsSpec)

/-- 'commonslaw11.RecRow', WHERE WHAT IT READS IS OF BULK AT MOST 1048576: true; the input reads as it did. -/
def recRowUptoRow : OpenClaim := { program := "ytjjjflmpindncaa", sum := "e6dd3e4a1be6cb67bda2b930b43fbc566fdcbb9a495d1b921356a8cbd09cbfb5", func := "commons/commonslaw11.RecRow", spec := "recRow", inPlace := ["internal/abi.NoEscape", "internal/bytealg.MakeNoZero"], apart := false, narrowed := true }
def RecRowUptoSaid : Prop := recRowUptoRow.holds Try.pinned (OpenSpec.upto recRowSpec)

end Rows
end Go.Proofs.Ytjjjflmpindncaa
