/- Frames and messages that wait, in plain words. -/
import Derived.Test.YtbpcbdlmkoajdaaNum
namespace Go.Proofs.Ytbpcbdlmkoajdaa
open Go Go.RowKit
set_option linter.unusedSimpArgs false

/-- A frame: from, to, mine, yours, seq, ack, data, has. -/
structure Frm where
  f : Int
  t : Int
  m : Int
  y : Int
  s : Int
  a : Int
  d : List UInt8
  h : Bool
  deriving Inhabited, DecidableEq
def zFrm : Frm := ⟨0, 0, 0, 0, 0, 0, [], false⟩
/-- A message that waits: its bytes, and in how many ticks it is to be sent. -/
structure Msg where
  d : List UInt8
  l : Nat
  deriving Inhabited, DecidableEq
def frmCells (x : Frm) : List Value := [.int .i64 x.f, .int .i64 x.t, .int .i64 x.m, .int .i64 x.y, .int .i64 x.s, .int .i64 x.a, .string (str x.d), .bool x.h]
def aggF (x : Frm) : Value := .agg #[.int .i64 x.f, .int .i64 x.t, .int .i64 x.m, .int .i64 x.y, .int .i64 x.s, .int .i64 x.a, .string (str x.d), .bool x.h]
/-- An int. -/
def I64 (n : Int) : Prop := -9223372036854775808 ≤ n ∧ n ≤ 9223372036854775807
structure FrmIn (x : Frm) : Prop where
  f : I64 x.f
  t : I64 x.t
  m : I64 x.m
  y : I64 x.y
  s : I64 x.s
  a : I64 x.a
end Go.Proofs.Ytbpcbdlmkoajdaa
