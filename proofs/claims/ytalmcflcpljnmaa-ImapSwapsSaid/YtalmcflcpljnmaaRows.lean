/-
  No cell of these rows narrows 'for every input' (looked for: loops, veiled, ifaces, maps, wideKeys, modest, calm, conditions, laid).
  DERIVED. THE GIVEN ROWS OF THIS SEAT. 5 by the template 'for every input the law returns true; each argument reads behind the call as it read before'; 0 by the template 'total and deterministic' (their statements: YtalmcflcpljnmaaTotals.lean).
  GIVEN WITH THE SEED: the statements are not yours to turn. If you find one false, say at which input.
  Laid BY PROGRAM, IN A SANDBOX (cutbox-rows.mjs): the forced cells as the released guide's own fill.sh prints them over the translation de2e259fafb267cd… (all of the seat's roots in one cut). By AI agents, Wed Nov 11 2026. No macro, syntax, notation, axiom, sorry.
-/
import Derived.Test.YtalmcflcpljnmaaChecked
import GoSem.Claim
import GoSem.ClaimJoined
import GoSem.ClaimMapViews
import Derived.JoinedTies
import Derived.KernelRfl
namespace Go.Proofs.Ytalmcflcpljnmaa
/- THE CELL 'sum', in the pinned program and in every row, IS THE sha256 OF THE DUMP (.gsa) THAT YtalmcflcpljnmaaProg.lean LOADS. Nothing in Lean hashes anything: it is a label: what it is worth is what the hold of that sum in a sandbox is worth. -/
noncomputable def Try.pinned : Pinned := { name := "ytalmcflcpljnmaa", sum := "de2e259fafb267cdb62c70386e9b2fa3d1279cbf98e163f191dd7992689392dd", checked := Try.checked }
namespace Rows
def none {H : Type} : Left H := { results := [], args := [] }

/-- 'commonslaw7.ImapNone': WHATEVER THE INPUT: true; the input reads as it did. -/
def imapNoneSpec : ChangeSpec := { name := "imapNone", fn := fun _ => fun
  | [d1, d2] => { results := [.lit (.bool true)], args := [d1, d2] }
  | _ => none }
def imapNoneRow : OpenClaim := { program := "ytalmcflcpljnmaa", sum := "de2e259fafb267cdb62c70386e9b2fa3d1279cbf98e163f191dd7992689392dd", func := "commons/commonslaw7.ImapNone", spec := "imapNone", unfollowed := true, recurses := true, apart := false }
def ImapNoneSaid : Prop := imapNoneRow.holds Try.pinned (OpenSpec.ofChange imapNoneSpec)

/-- ITS FALSE NEIGHBOUR: 'it returns false'. Refute it at one input. -/
def imapNoneWrong : ChangeSpec := { name := "imapNone", fn := fun _ => fun
  | [d1, d2] => { results := [.lit (.bool false)], args := [d1, d2] }
  | _ => none }
def ImapNoneWrongFalsely : Prop := imapNoneRow.holds Try.pinned (OpenSpec.ofChange imapNoneWrong)

/-- 'commonslaw7.ImapLast': WHATEVER THE INPUT: true; the input reads as it did. -/
def imapLastSpec : ChangeSpec := { name := "imapLast", fn := fun _ => fun
  | [d1, d2] => { results := [.lit (.bool true)], args := [d1, d2] }
  | _ => none }
def imapLastRow : OpenClaim := { program := "ytalmcflcpljnmaa", sum := "de2e259fafb267cdb62c70386e9b2fa3d1279cbf98e163f191dd7992689392dd", func := "commons/commonslaw7.ImapLast", spec := "imapLast", unfollowed := true, recurses := true, apart := false }
def ImapLastSaid : Prop := imapLastRow.holds Try.pinned (OpenSpec.ofChange imapLastSpec)

/-- ITS FALSE NEIGHBOUR: 'it returns false'. Refute it at one input. -/
def imapLastWrong : ChangeSpec := { name := "imapLast", fn := fun _ => fun
  | [d1, d2] => { results := [.lit (.bool false)], args := [d1, d2] }
  | _ => none }
def ImapLastWrongFalsely : Prop := imapLastRow.holds Try.pinned (OpenSpec.ofChange imapLastWrong)

/-- 'commonslaw7.ImapParts': WHATEVER THE INPUT: true; the input reads as it did. -/
def imapPartsSpec : ChangeSpec := { name := "imapParts", fn := fun _ => fun
  | [d1, d2, d3, d4] => { results := [.lit (.bool true)], args := [d1, d2, d3, d4] }
  | _ => none }
def imapPartsRow : OpenClaim := { program := "ytalmcflcpljnmaa", sum := "de2e259fafb267cdb62c70386e9b2fa3d1279cbf98e163f191dd7992689392dd", func := "commons/commonslaw7.ImapParts", spec := "imapParts", unfollowed := true, recurses := true, apart := false }
def ImapPartsSaid : Prop := imapPartsRow.holds Try.pinned (OpenSpec.ofChange imapPartsSpec)

/-- ITS FALSE NEIGHBOUR: 'it returns false'. Refute it at one input. -/
def imapPartsWrong : ChangeSpec := { name := "imapParts", fn := fun _ => fun
  | [d1, d2, d3, d4] => { results := [.lit (.bool false)], args := [d1, d2, d3, d4] }
  | _ => none }
def ImapPartsWrongFalsely : Prop := imapPartsRow.holds Try.pinned (OpenSpec.ofChange imapPartsWrong)

/-- 'commonslaw7.ImapSwaps': WHATEVER THE INPUT: true; the input reads as it did. -/
def imapSwapsSpec : ChangeSpec := { name := "imapSwaps", fn := fun _ => fun
  | [d1, d2, d3, d4] => { results := [.lit (.bool true)], args := [d1, d2, d3, d4] }
  | _ => none }
def imapSwapsRow : OpenClaim := { program := "ytalmcflcpljnmaa", sum := "de2e259fafb267cdb62c70386e9b2fa3d1279cbf98e163f191dd7992689392dd", func := "commons/commonslaw7.ImapSwaps", spec := "imapSwaps", unfollowed := true, recurses := true, apart := false }
def ImapSwapsSaid : Prop := imapSwapsRow.holds Try.pinned (OpenSpec.ofChange imapSwapsSpec)

/-- ITS FALSE NEIGHBOUR: 'it returns false'. Refute it at one input. -/
def imapSwapsWrong : ChangeSpec := { name := "imapSwaps", fn := fun _ => fun
  | [d1, d2, d3, d4] => { results := [.lit (.bool false)], args := [d1, d2, d3, d4] }
  | _ => none }
def ImapSwapsWrongFalsely : Prop := imapSwapsRow.holds Try.pinned (OpenSpec.ofChange imapSwapsWrong)

/-- 'commonslaw7.ImapWith': WHATEVER THE INPUT: true; the input reads as it did. -/
def imapWithSpec : ChangeSpec := { name := "imapWith", fn := fun _ => fun
  | [d1, d2, d3] => { results := [.lit (.bool true)], args := [d1, d2, d3] }
  | _ => none }
def imapWithRow : OpenClaim := { program := "ytalmcflcpljnmaa", sum := "de2e259fafb267cdb62c70386e9b2fa3d1279cbf98e163f191dd7992689392dd", func := "commons/commonslaw7.ImapWith", spec := "imapWith", unfollowed := true, recurses := true, apart := false }
def ImapWithSaid : Prop := imapWithRow.holds Try.pinned (OpenSpec.ofChange imapWithSpec)

/-- ITS FALSE NEIGHBOUR: 'it returns false'. Refute it at one input. -/
def imapWithWrong : ChangeSpec := { name := "imapWith", fn := fun _ => fun
  | [d1, d2, d3] => { results := [.lit (.bool false)], args := [d1, d2, d3] }
  | _ => none }
def ImapWithWrongFalsely : Prop := imapWithRow.holds Try.pinned (OpenSpec.ofChange imapWithWrong)

/- THE SECOND FORM. 'bulk': how many values and letters a reading holds, each counted each time it is reached (what is shared counts as often as it is met; a slice's spare places count too). A statement '..UptoSaid' is the law's where the arguments, and the package variables that the reading takes, are together of bulk at most 1048576: NARROWER than '..Said'. Prove '..Said' where nothing that the law and all that it calls make is longer than what came in: it says more and counts as full. Else prove '..UptoSaid'. A law counts once. -/
mutual
def uptoBulk {H : Type} : DataW H → Nat
  | .lit (.string bytes) => bytes.length + 1
  | .lit _ => 1
  | .nil => 1
  | .ptr d => uptoBulk d + 1
  | .slice elems spare => uptoBulkAll elems + uptoBulkAll spare + 1
  | .agg parts => uptoBulkAll parts + 1
  | .iface _ d => uptoBulk d + 1
  | .map entries => uptoBulkEntries entries + 1
  | .held _ => 1
def uptoBulkAll {H : Type} : List (DataW H) → Nat
  | [] => 0
  | d :: r => uptoBulk d + uptoBulkAll r
def uptoBulkEntries {H : Type} : List (Lit × DataW H) → Nat
  | [] => 0
  | x :: r => uptoBulkEntry x + uptoBulkEntries r
def uptoBulkEntry {H : Type} : Lit × DataW H → Nat
  | (.string bytes, d) => bytes.length + uptoBulk d + 1
  | (_, d) => uptoBulk d + 1
 end
def uptoSmall : (H : Type) → List (DataW H) → Bool := fun _ ds => decide (uptoBulkAll ds ≤ 1048576)
def OpenSpec.upto (s : _root_.Go.ChangeSpec) : _root_.Go.OpenSpec := { _root_.Go.OpenSpec.ofChange s with cond := some uptoSmall }

/-- 'commonslaw7.ImapNone', WHERE WHAT IT READS IS OF BULK AT MOST 1048576: true; the input reads as it did. -/
def imapNoneUptoRow : OpenClaim := { program := "ytalmcflcpljnmaa", sum := "de2e259fafb267cdb62c70386e9b2fa3d1279cbf98e163f191dd7992689392dd", func := "commons/commonslaw7.ImapNone", spec := "imapNone", unfollowed := true, recurses := true, apart := false, narrowed := true }
def ImapNoneUptoSaid : Prop := imapNoneUptoRow.holds Try.pinned (OpenSpec.upto imapNoneSpec)

/-- 'commonslaw7.ImapLast', WHERE WHAT IT READS IS OF BULK AT MOST 1048576: true; the input reads as it did. -/
def imapLastUptoRow : OpenClaim := { program := "ytalmcflcpljnmaa", sum := "de2e259fafb267cdb62c70386e9b2fa3d1279cbf98e163f191dd7992689392dd", func := "commons/commonslaw7.ImapLast", spec := "imapLast", unfollowed := true, recurses := true, apart := false, narrowed := true }
def ImapLastUptoSaid : Prop := imapLastUptoRow.holds Try.pinned (OpenSpec.upto imapLastSpec)

/-- 'commonslaw7.ImapParts', WHERE WHAT IT READS IS OF BULK AT MOST 1048576: true; the input reads as it did. -/
def imapPartsUptoRow : OpenClaim := { program := "ytalmcflcpljnmaa", sum := "de2e259fafb267cdb62c70386e9b2fa3d1279cbf98e163f191dd7992689392dd", func := "commons/commonslaw7.ImapParts", spec := "imapParts", unfollowed := true, recurses := true, apart := false, narrowed := true }
def ImapPartsUptoSaid : Prop := imapPartsUptoRow.holds Try.pinned (OpenSpec.upto imapPartsSpec)

/-- 'commonslaw7.ImapSwaps', WHERE WHAT IT READS IS OF BULK AT MOST 1048576: true; the input reads as it did. -/
def imapSwapsUptoRow : OpenClaim := { program := "ytalmcflcpljnmaa", sum := "de2e259fafb267cdb62c70386e9b2fa3d1279cbf98e163f191dd7992689392dd", func := "commons/commonslaw7.ImapSwaps", spec := "imapSwaps", unfollowed := true, recurses := true, apart := false, narrowed := true }
def ImapSwapsUptoSaid : Prop := imapSwapsUptoRow.holds Try.pinned (OpenSpec.upto imapSwapsSpec)

/-- 'commonslaw7.ImapWith', WHERE WHAT IT READS IS OF BULK AT MOST 1048576: true; the input reads as it did. -/
def imapWithUptoRow : OpenClaim := { program := "ytalmcflcpljnmaa", sum := "de2e259fafb267cdb62c70386e9b2fa3d1279cbf98e163f191dd7992689392dd", func := "commons/commonslaw7.ImapWith", spec := "imapWith", unfollowed := true, recurses := true, apart := false, narrowed := true }
def ImapWithUptoSaid : Prop := imapWithUptoRow.holds Try.pinned (OpenSpec.upto imapWithSpec)

end Rows
end Go.Proofs.Ytalmcflcpljnmaa
