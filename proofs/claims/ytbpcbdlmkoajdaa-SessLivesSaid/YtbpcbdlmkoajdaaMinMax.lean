/- max and min of two ints in a walk, by a value that is known: no case is split. -/
import Derived.Test.YtbpcbdlmkoajdaaKit
import Derived.Laws.Small
import Derived.Deep.RegionLaw
import Derived.OwnWalk
namespace Go.Proofs.Ytbpcbdlmkoajdaa
open Go Go.RowKit
section
variable {P : Program} {w : World} {ops : Array Oper} {rest : List Oper} {o : Oper} {a : Act} {Q : Exit → Act → World → Prop}
/-- A guard: the goal is a list of operations. -/
theorem at_list (h : wpList P ops Q (o :: rest) a w) : wpList P ops Q (o :: rest) a w := h
theorem wpList_max_eq (hgd : o.guard = none) (s x : Operand) (ts : Array TypeId) (ho : o.op = .call { callee := .builtin .max, args := #[s, x], argTypes := ts }) (k k' : IntKind) (u v c : Int)
    (hs : a.eval s = .int k u) (hx : a.eval x = .int k' v) (hc : max u v = c) (h : wpList P ops Q rest (a.put o.dst (.int k c)) w) : wpList P ops Q (o :: rest) a w := by
  have hr : (Builtin.max_ ts o.type #[.int k u, .int k' v]).run P w = .ok (.int k c) w := by
    rw [run_max_int2]
    have : (if v > u then v else u) = c := by split <;> omega
    rw [this]
  refine wpList_plain hgd fun K hK => ?_
  unfold Oper.wp execOp
  simp only [ho, resolve, invoke, builtin, Sem.run_bind, Sem.run_pure, Result.andThen_ok, List.map_toArray, List.map_cons, List.map_nil, hs, hx, hr]
  exact hK _ _ h
theorem wpList_min_eq (hgd : o.guard = none) (s x : Operand) (ts : Array TypeId) (ho : o.op = .call { callee := .builtin .min, args := #[s, x], argTypes := ts }) (k k' : IntKind) (u v c : Int)
    (hs : a.eval s = .int k u) (hx : a.eval x = .int k' v) (hc : min u v = c) (h : wpList P ops Q rest (a.put o.dst (.int k c)) w) : wpList P ops Q (o :: rest) a w := by
  have hr : (Builtin.min_ ts o.type #[.int k u, .int k' v]).run P w = .ok (.int k c) w := by
    rw [run_min_int2]
    have : (if v < u then v else u) = c := by split <;> omega
    rw [this]
  refine wpList_plain hgd fun K hK => ?_
  unfold Oper.wp execOp
  simp only [ho, resolve, invoke, builtin, Sem.run_bind, Sem.run_pure, Result.andThen_ok, List.map_toArray, List.map_cons, List.map_nil, hs, hx, hr]
  exact hK _ _ h
end
end Go.Proofs.Ytbpcbdlmkoajdaa
