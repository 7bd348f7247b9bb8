/- Package ring: a Box[int] in memory, and what its methods answer and leave. Its channels are asked by select with a default: these methods are walked over the machine's own steps. -/
import Derived.Test.YtffgdmdliddlpaaTwo
import Derived.Test.YtffgdmdliddlpaaMinMax
import Derived.Test.YtffgdmdliddlpaaRingDI
import Derived.Conc.LoneCalls
import Derived.Conc.LoneSelect
import Derived.Conc.LoneSelectN
import Derived.KernelRfl
namespace Go.Proofs.Ytffgdmdliddlpaa
open Go Go.RowKit Go.Conc
set_option maxRecDepth 100000
set_option maxHeartbeats 1000000
set_option linter.unusedSimpArgs false

def ints (l : List Int) : Array Value := (l.map fun n => Value.int .i64 n).toArray
theorem ints_size (l : List Int) : (ints l).size = l.length := by simp [ints]
theorem ints_push (l : List Int) (x : Int) : (ints l).push (.int .i64 x) = ints (l ++ [x]) := by simp [ints]
theorem ints_tail (l : List Int) (x : Int) : (ints (x :: l)).extract 1 (ints (x :: l)).size = ints l := by
  apply Array.ext'
  rw [ints_size]
  simp [ints]
  exact List.take_of_length_le (by simp)
theorem ints_head (l : List Int) (x : Int) : (ints (x :: l)).getD 0 undef = .int .i64 x := by simp [ints]
/-- At p lies a box whose channels are c and d: it has room for so many, holds l, and is closed or not. -/
structure BoxAt (w : World) (p c d most : Nat) (l : List Int) (closed : Bool) : Prop where
  sits : Sits w p 48 #[.chan (some c), .chan (some d)]
  values : ∃ s r, w.heap[c]? = some (.chan most (ints l) false s r false)
  shut : ∃ s r, w.heap[d]? = some (.chan 1 (if closed then #[.bool true] else #[]) false s r false)
  ne : c ≠ d
/-- A zero box. -/
abbrev BoxZero (w : World) (p : Nat) : Prop := Sits w p 48 #[.chan none, .chan none]
theorem lt_of_obj {w : World} {c : Nat} {o : Obj} (h : w.heap[c]? = some o) : c < w.heap.size := (Array.getElem?_eq_some_iff.1 h).1
theorem setChan_other (w : World) (c c' cap : Nat) (buf : Array Value) (closed : Bool) (s r : Nat) (tm : Bool) (h : c ≠ c') : (w.setChan c cap buf closed s r tm).heap[c']? = w.heap[c']? := by
  simp [World.setChan, Array.getElem?_setIfInBounds_ne h]
section
variable {w w' : World} {p c d most : Nat} {l : List Int} {closed : Bool}
theorem BoxAt.apart (h : BoxAt w p c d most l closed) : p ≠ c ∧ p ≠ d := by
  obtain ⟨s, r, h1⟩ := h.values
  obtain ⟨s', r', h2⟩ := h.shut
  have h3 : w.heap[p]? = some _ := h.sits
  constructor
  · rintro rfl; rw [h1] at h3; cases h3
  · rintro rfl; rw [h2] at h3; cases h3
theorem BoxAt.lt (h : BoxAt w p c d most l closed) : p < w.heap.size ∧ c < w.heap.size ∧ d < w.heap.size := by
  obtain ⟨s, r, h1⟩ := h.values
  obtain ⟨s', r', h2⟩ := h.shut
  exact ⟨h.sits.lt, lt_of_obj h1, lt_of_obj h2⟩
theorem BoxAt.keep (h : BoxAt w p c d most l closed) (hk : ∀ b, b = p ∨ b = c ∨ b = d → w'.heap[b]? = w.heap[b]?) : BoxAt w' p c d most l closed := by
  obtain ⟨s, r, h1⟩ := h.values
  obtain ⟨s', r', h2⟩ := h.shut
  exact ⟨(hk p (.inl rfl)).trans h.sits, ⟨s, r, (hk c (.inr (.inl rfl))).trans h1⟩, ⟨s', r', (hk d (.inr (.inr rfl))).trans h2⟩, h.ne⟩
theorem BoxAt.below (h : BoxAt w p c d most l closed) (hb : Below w.heap.size w w') : BoxAt w' p c d most l closed :=
  h.keep fun b hb' => hb.block b (by have := h.lt; rcases hb' with rfl | rfl | rfl <;> omega)
theorem BoxAt.values' (h : BoxAt w p c d most l closed) (l' : List Int) (s r : Nat) : BoxAt (w.setChan c most (ints l') false s r false) p c d most l' closed := by
  obtain ⟨s', r', h2⟩ := h.shut
  exact ⟨(setChan_other _ _ _ _ _ _ _ _ _ (Ne.symm h.apart.1)).trans h.sits, ⟨s, r, heap_setChan _ _ _ _ _ _ _ _ h.lt.2.1⟩, ⟨s', r', (setChan_other _ _ _ _ _ _ _ _ _ h.ne).trans h2⟩, h.ne⟩
theorem BoxAt.shut' (h : BoxAt w p c d most l closed) (s r : Nat) : BoxAt (w.setChan d 1 #[.bool true] false s r false) p c d most l true := by
  obtain ⟨s', r', h1⟩ := h.values
  exact ⟨(setChan_other _ _ _ _ _ _ _ _ _ (Ne.symm h.apart.2)).trans h.sits, ⟨s', r', (setChan_other _ _ _ _ _ _ _ _ _ (Ne.symm h.ne)).trans h1⟩, ⟨s, r, heap_setChan _ _ _ _ _ _ _ _ h.lt.2.2⟩, h.ne⟩
theorem two_setChan1 (c d : Nat) (w : World) (cap : Nat) (buf : Array Value) (cl : Bool) (s r : Nat) (tm : Bool) : Two c d w (w.setChan c cap buf cl s r tm) :=
  ⟨rfl, rfl, rfl, by simp [World.setChan], fun k _ hk _ => setChan_other _ _ _ _ _ _ _ _ _ (Ne.symm hk)⟩
theorem two_setChan2 (c d : Nat) (w : World) (cap : Nat) (buf : Array Value) (cl : Bool) (s r : Nat) (tm : Bool) : Two c d w (w.setChan d cap buf cl s r tm) :=
  ⟨rfl, rfl, rfl, by simp [World.setChan], fun k _ _ hk => setChan_other _ _ _ _ _ _ _ _ _ (Ne.symm hk)⟩
end

theorem boxlen_nil (w : World) : Calls Try.prog 32 #[.pointer none] w fun e w' => e = .returned (.int .i64 0) ∧ w = w' := by
  go_enter Try.func32, Try.ntmps32
  go_wp2
  go_ret
  exact ⟨rfl, rfl⟩
theorem boxlen_zero (p : Nat) (w : World) (h : BoxZero w p) : Calls Try.prog 32 #[.pointer (some ⟨p, 0, none⟩)] w fun e w' => e = .returned (.int .i64 0) ∧ w = w' := by
  have c0 := h.cell 0
  have hl : (Builtin.len_ #[45] 3 #[.chan none]).run Try.prog w = .ok (.int .i64 0) w := by simp [Builtin.len_, run_underlying Try.underlying45, goInt]
  clear h
  go_enter Try.func32, Try.ntmps32
  go_wp2
  go_ret
  exact ⟨rfl, rfl⟩
theorem boxlen_any (p c d most : Nat) (l : List Int) (closed : Bool) (w : World) (h : BoxAt w p c d most l closed) :
    Calls Try.prog 32 #[.pointer (some ⟨p, 0, none⟩)] w fun e w' => e = .returned (.int .i64 l.length) ∧ w = w' := by
  have c0 := h.sits.cell 0
  obtain ⟨s, r, h1⟩ := h.values
  have hl := run_len_chan (P := Try.prog) 45 3 Try.underlying45 h1
  rw [ints_size] at hl
  clear h h1
  go_enter Try.func32, Try.ntmps32
  go_wp2
  go_ret
  exact ⟨rfl, rfl⟩
theorem boxtake_cons (p c d most : Nat) (x : Int) (l : List Int) (closed : Bool) (w : World) (h : BoxAt w p c d most (x :: l) closed) :
    Calls Try.prog 30 #[.pointer (some ⟨p, 0, none⟩)] w fun e w' => e = .returned (.tuple #[.int .i64 x, .bool true]) ∧ BoxAt w' p c d most l closed ∧ Two c d w w' := by
  have c0 := h.sits.cell 0
  have c1 := h.sits.cell 1
  obtain ⟨s, r, hv⟩ := h.values
  obtain ⟨s2, r2, hs⟩ := h.shut
  have hd := ints_head l x
  have ht := ints_tail l x
  have hz : 0 < (ints (x :: l)).size := by simp [ints_size]
  refine calls_of_loneTo fun cs => ?_
  have e : Frame.enter Try.prog 30 #[.pointer (some ⟨p, 0, none⟩)] .normal = (base 30).at ⟨#[.pointer (some ⟨p, 0, none⟩), undef, undef, undef, undef, undef, undef, undef, undef, undef, undef, undef, undef, undef, undef, undef, undef, undef, undef], []⟩ [.code (Try.f30.body.getD .skip)] := by
    simp [Frame.enter, Frame.at, Try.func30, base, Try.f30]
  rw [e]
  refine LoneTo.goes (n := 80) ?_
  simp only [Try.f30, Option.getD_some]
  repeat (first | s_c stepG_seq | s_c stepG_skip | s_reg | s_op | s_c stepG_region_end | s_cond true | s_cond false | s_c stepG_block | s_exit)
  s_stop
  refine LoneTo.step (step_lone_select_recv_buf (c := c) (z := .int .i64 0) (stepG_comm (cases := #[rcase c (.int .i64 0)]) (blocking := false) (shape := .select) (w' := w) rfl rfl (by decide) (by simp [go_sem, execOp, rcase, scase, rcaseNil, scaseNil, Act.eval])) hv hz) ?_
  rw [Frame.finish_at]
  rw [hd]
  walk_nrm
  refine LoneTo.goes (n := 80) ?_
  repeat (first | s_c stepG_seq | s_c stepG_skip | s_reg | s_op | s_c stepG_region_end | s_cond true | s_cond false | s_c stepG_block | s_exit)
  s_c stepG_ret'
  s_stop
  refine LoneTo.done ⟨.returned (.tuple #[.int .i64 x, .bool true]), _, rfl, ⟨rfl, ?_⟩, rfl, rfl, rfl, rfl, _, Try.func30, by simp [results, Try.f30, Frame.at]⟩
  exact ⟨h.values' l _ _, two_setChan1 _ _ _ _ _ _ _ _ _⟩
theorem boxtake_empty (p c d most : Nat) (closed : Bool) (w : World) (h : BoxAt w p c d most [] closed) :
    Calls Try.prog 30 #[.pointer (some ⟨p, 0, none⟩)] w fun e w' => e = .returned (.tuple #[.int .i64 0, .bool false]) ∧ w = w' := by
  have c0 := h.sits.cell 0
  have c1 := h.sits.cell 1
  obtain ⟨s, r, hv⟩ := h.values
  obtain ⟨s2, r2, hs⟩ := h.shut
  refine calls_of_loneTo fun cs => ?_
  have e : Frame.enter Try.prog 30 #[.pointer (some ⟨p, 0, none⟩)] .normal = (base 30).at ⟨#[.pointer (some ⟨p, 0, none⟩), undef, undef, undef, undef, undef, undef, undef, undef, undef, undef, undef, undef, undef, undef, undef, undef, undef, undef], []⟩ [.code (Try.f30.body.getD .skip)] := by
    simp [Frame.enter, Frame.at, Try.func30, base, Try.f30]
  rw [e]
  refine LoneTo.goes (n := 80) ?_
  simp only [Try.f30, Option.getD_some]
  repeat (first | s_c stepG_seq | s_c stepG_skip | s_reg | s_op | s_c stepG_region_end | s_cond true | s_cond false | s_c stepG_block | s_exit)
  s_stop
  refine LoneTo.step (step_lone_select_default (c := c) (z := .int .i64 0) (stepG_comm (cases := #[rcase c (.int .i64 0)]) (blocking := false) (shape := .select) (w' := w) rfl rfl (by decide) (by simp [go_sem, execOp, rcase, scase, rcaseNil, scaseNil, Act.eval])) hv) ?_
  rw [Frame.finish_at]
  walk_nrm
  refine LoneTo.goes (n := 80) ?_
  repeat (first | s_c stepG_seq | s_c stepG_skip | s_reg | s_op | s_c stepG_region_end | s_cond true | s_cond false | s_c stepG_block | s_exit)
  s_c stepG_ret'
  s_stop
  refine LoneTo.done ⟨.returned (.tuple #[.int .i64 0, .bool false]), _, rfl, ⟨rfl, ?_⟩, rfl, rfl, rfl, rfl, _, Try.func30, by simp [results, Try.f30, Frame.at]⟩
  rfl
theorem boxtake_zero (p : Nat) (w : World) (h : BoxZero w p) :
    Calls Try.prog 30 #[.pointer (some ⟨p, 0, none⟩)] w fun e w' => e = .returned (.tuple #[.int .i64 0, .bool false]) ∧ w = w' := by
  have c0 := h.cell 0
  refine calls_of_loneTo fun cs => ?_
  have e : Frame.enter Try.prog 30 #[.pointer (some ⟨p, 0, none⟩)] .normal = (base 30).at ⟨#[.pointer (some ⟨p, 0, none⟩), undef, undef, undef, undef, undef, undef, undef, undef, undef, undef, undef, undef, undef, undef, undef, undef, undef, undef], []⟩ [.code (Try.f30.body.getD .skip)] := by
    simp [Frame.enter, Frame.at, Try.func30, base, Try.f30]
  rw [e]
  refine LoneTo.goes (n := 80) ?_
  simp only [Try.f30, Option.getD_some]
  repeat (first | s_c stepG_seq | s_c stepG_skip | s_reg | s_op | s_c stepG_region_end | s_cond true | s_cond false | s_c stepG_block | s_exit)
  s_stop
  refine LoneTo.step (step_lone_select_recv_nil (z := .int .i64 0) (stepG_comm (cases := #[rcaseNil (.int .i64 0)]) (blocking := false) (shape := .select) (w' := w) rfl rfl (by decide) (by simp [go_sem, execOp, rcase, scase, rcaseNil, scaseNil, Act.eval]))) ?_
  rw [Frame.finish_at]
  walk_nrm
  refine LoneTo.goes (n := 80) ?_
  repeat (first | s_c stepG_seq | s_c stepG_skip | s_reg | s_op | s_c stepG_region_end | s_cond true | s_cond false | s_c stepG_block | s_exit)
  s_c stepG_ret'
  s_stop
  refine LoneTo.done ⟨.returned (.tuple #[.int .i64 0, .bool false]), _, rfl, ⟨rfl, ?_⟩, rfl, rfl, rfl, rfl, _, Try.func30, by simp [results, Try.f30, Frame.at]⟩
  rfl
theorem boxtake_nil (w : World) : Calls Try.prog 30 #[.pointer none] w fun e w' => e = .returned (.tuple #[.int .i64 0, .bool false]) ∧ w = w' := by
  go_enter Try.func30, Try.ntmps30
  go_wp2
  go_ret2
  exact ⟨rfl, rfl⟩
theorem boxsend_room (p c d most : Nat) (x : Int) (l : List Int) (w : World) (h : BoxAt w p c d most l false) (hr : l.length < most) :
    Calls Try.prog 31 #[.pointer (some ⟨p, 0, none⟩), .int .i64 x] w fun e w' => e = .returned (.bool true) ∧ BoxAt w' p c d most (l ++ [x]) false ∧ Two c d w w' := by
  have c0 := h.sits.cell 0
  have c1 := h.sits.cell 1
  obtain ⟨s, r, hv⟩ := h.values
  obtain ⟨s2, r2, hs⟩ := h.shut
  have hl := run_len_chan (P := Try.prog) 46 3 Try.underlying46 hs
  simp only [Bool.false_eq_true, if_false] at hl hs
  simp [goInt] at hl
  have hz : (ints l).size < most := by rw [ints_size]; exact hr
  refine calls_of_loneTo fun cs => ?_
  have e : Frame.enter Try.prog 31 #[.pointer (some ⟨p, 0, none⟩), .int .i64 x] .normal = (base 31).at ⟨#[.pointer (some ⟨p, 0, none⟩), .int .i64 x, undef, undef, undef, undef, undef, undef, undef, undef, undef, undef, undef, undef, undef, undef, undef, undef, undef, undef, undef, undef, undef], []⟩ [.code (Try.f31.body.getD .skip)] := by
    simp [Frame.enter, Frame.at, Try.func31, base, Try.f31]
  rw [e]
  refine LoneTo.goes (n := 80) ?_
  simp only [Try.f31, Option.getD_some]
  repeat (first | s_c stepG_seq | s_c stepG_skip | s_reg | s_op | s_c stepG_region_end | s_cond true | s_cond false | s_c stepG_block | s_exit)
  s_stop
  refine LoneTo.step (step_lone_select_send_room (c := c) (z' := .int .i64 0) (v := .int .i64 x) (stepG_comm (cases := #[scase c (.int .i64 x) (.int .i64 0)]) (blocking := false) (shape := .select) (w' := w) rfl rfl (by decide) (by simp [go_sem, execOp, rcase, scase, rcaseNil, scaseNil, Act.eval])) hv hz) ?_
  rw [Frame.finish_at]
  walk_nrm
  refine LoneTo.goes (n := 80) ?_
  repeat (first | s_c stepG_seq | s_c stepG_skip | s_reg | s_op | s_c stepG_region_end | s_cond true | s_cond false | s_c stepG_block | s_exit)
  s_c stepG_ret'
  s_stop
  refine LoneTo.done ⟨.returned (.bool true), _, rfl, ⟨rfl, ?_⟩, rfl, rfl, rfl, rfl, _, Try.func31, by simp [results, Try.f31, Frame.at]⟩
  rw [ints_push]
  exact ⟨h.values' (l ++ [x]) _ _, two_setChan1 _ _ _ _ _ _ _ _ _⟩
theorem boxsend_full (p c d most : Nat) (x : Int) (l : List Int) (w : World) (h : BoxAt w p c d most l false) (hr : most ≤ l.length) :
    Calls Try.prog 31 #[.pointer (some ⟨p, 0, none⟩), .int .i64 x] w fun e w' => e = .returned (.bool false) ∧ w = w' := by
  have c0 := h.sits.cell 0
  have c1 := h.sits.cell 1
  obtain ⟨s, r, hv⟩ := h.values
  obtain ⟨s2, r2, hs⟩ := h.shut
  have hl := run_len_chan (P := Try.prog) 46 3 Try.underlying46 hs
  simp only [Bool.false_eq_true, if_false] at hl hs
  simp [goInt] at hl
  have hz : most ≤ (ints l).size := by rw [ints_size]; exact hr
  refine calls_of_loneTo fun cs => ?_
  have e : Frame.enter Try.prog 31 #[.pointer (some ⟨p, 0, none⟩), .int .i64 x] .normal = (base 31).at ⟨#[.pointer (some ⟨p, 0, none⟩), .int .i64 x, undef, undef, undef, undef, undef, undef, undef, undef, undef, undef, undef, undef, undef, undef, undef, undef, undef, undef, undef, undef, undef], []⟩ [.code (Try.f31.body.getD .skip)] := by
    simp [Frame.enter, Frame.at, Try.func31, base, Try.f31]
  rw [e]
  refine LoneTo.goes (n := 80) ?_
  simp only [Try.f31, Option.getD_some]
  repeat (first | s_c stepG_seq | s_c stepG_skip | s_reg | s_op | s_c stepG_region_end | s_cond true | s_cond false | s_c stepG_block | s_exit)
  s_stop
  refine LoneTo.step (step_lone_select_send_full (c := c) (z' := .int .i64 0) (v := .int .i64 x) (stepG_comm (cases := #[scase c (.int .i64 x) (.int .i64 0)]) (blocking := false) (shape := .select) (w' := w) rfl rfl (by decide) (by simp [go_sem, execOp, rcase, scase, rcaseNil, scaseNil, Act.eval])) hv hz) ?_
  rw [Frame.finish_at]
  walk_nrm
  refine LoneTo.goes (n := 80) ?_
  repeat (first | s_c stepG_seq | s_c stepG_skip | s_reg | s_op | s_c stepG_region_end | s_cond true | s_cond false | s_c stepG_block | s_exit)
  s_c stepG_ret'
  s_stop
  refine LoneTo.done ⟨.returned (.bool false), _, rfl, ⟨rfl, ?_⟩, rfl, rfl, rfl, rfl, _, Try.func31, by simp [results, Try.f31, Frame.at]⟩
  rfl
theorem boxsend_zero (p : Nat) (x : Int) (w : World) (h : BoxZero w p) :
    Calls Try.prog 31 #[.pointer (some ⟨p, 0, none⟩), .int .i64 x] w fun e w' => e = .returned (.bool false) ∧ w = w' := by
  have c0 := h.cell 0
  have c1 := h.cell 1
  have hl : (Builtin.len_ #[46] 3 #[.chan none]).run Try.prog w = .ok (.int .i64 0) w := by simp [Builtin.len_, run_underlying Try.underlying46, goInt]
  refine calls_of_loneTo fun cs => ?_
  have e : Frame.enter Try.prog 31 #[.pointer (some ⟨p, 0, none⟩), .int .i64 x] .normal = (base 31).at ⟨#[.pointer (some ⟨p, 0, none⟩), .int .i64 x, undef, undef, undef, undef, undef, undef, undef, undef, undef, undef, undef, undef, undef, undef, undef, undef, undef, undef, undef, undef, undef], []⟩ [.code (Try.f31.body.getD .skip)] := by
    simp [Frame.enter, Frame.at, Try.func31, base, Try.f31]
  rw [e]
  refine LoneTo.goes (n := 80) ?_
  simp only [Try.f31, Option.getD_some]
  repeat (first | s_c stepG_seq | s_c stepG_skip | s_reg | s_op | s_c stepG_region_end | s_cond true | s_cond false | s_c stepG_block | s_exit)
  s_stop
  refine LoneTo.step (step_lone_select_send_nil (z' := .int .i64 0) (v := .int .i64 x) (stepG_comm (cases := #[scaseNil (.int .i64 x) (.int .i64 0)]) (blocking := false) (shape := .select) (w' := w) rfl rfl (by decide) (by simp [go_sem, execOp, rcase, scase, rcaseNil, scaseNil, Act.eval]))) ?_
  rw [Frame.finish_at]
  walk_nrm
  refine LoneTo.goes (n := 80) ?_
  repeat (first | s_c stepG_seq | s_c stepG_skip | s_reg | s_op | s_c stepG_region_end | s_cond true | s_cond false | s_c stepG_block | s_exit)
  s_c stepG_ret'
  s_stop
  refine LoneTo.done ⟨.returned (.bool false), _, rfl, ⟨rfl, ?_⟩, rfl, rfl, rfl, rfl, _, Try.func31, by simp [results, Try.f31, Frame.at]⟩
  rfl
theorem boxsend_nil (x : Int) (w : World) : Calls Try.prog 31 #[.pointer none, .int .i64 x] w fun e w' => e = .returned (.bool false) ∧ w = w' := by
  go_enter Try.func31, Try.ntmps31
  go_wp2
  go_ret
  exact ⟨rfl, rfl⟩
theorem boxsend_closed (p c d most : Nat) (x : Int) (l : List Int) (w : World) (h : BoxAt w p c d most l true) :
    Calls Try.prog 31 #[.pointer (some ⟨p, 0, none⟩), .int .i64 x] w fun e w' => e = .returned (.bool false) ∧ w = w' := by
  have c0 := h.sits.cell 0
  have c1 := h.sits.cell 1
  obtain ⟨s, r, hv⟩ := h.values
  obtain ⟨s2, r2, hs⟩ := h.shut
  have hl := run_len_chan (P := Try.prog) 46 3 Try.underlying46 hs
  simp only [if_true] at hl hs
  simp [goInt] at hl
  clear h hv hs
  go_enter Try.func31, Try.ntmps31
  go_wp2
  go_ret
  exact ⟨rfl, rfl⟩
theorem boxclose_open (p c d most : Nat) (l : List Int) (w : World) (h : BoxAt w p c d most l false) :
    Calls Try.prog 29 #[.pointer (some ⟨p, 0, none⟩)] w fun e w' => e = .returned (.bool true) ∧ BoxAt w' p c d most l true ∧ Two c d w w' := by
  have c0 := h.sits.cell 0
  have c1 := h.sits.cell 1
  obtain ⟨s, r, hv⟩ := h.values
  obtain ⟨s2, r2, hs⟩ := h.shut
  simp only [Bool.false_eq_true, if_false] at hs
  refine calls_of_loneTo fun cs => ?_
  have e : Frame.enter Try.prog 29 #[.pointer (some ⟨p, 0, none⟩)] .normal = (base 29).at ⟨#[.pointer (some ⟨p, 0, none⟩), undef, undef, undef, undef, undef, undef, undef, undef, undef, undef, undef], []⟩ [.code (Try.f29.body.getD .skip)] := by
    simp [Frame.enter, Frame.at, Try.func29, base, Try.f29]
  rw [e]
  refine LoneTo.goes (n := 80) ?_
  simp only [Try.f29, Option.getD_some]
  repeat (first | s_c stepG_seq | s_c stepG_skip | s_reg | s_op | s_c stepG_region_end | s_cond true | s_cond false | s_c stepG_block | s_exit)
  s_stop
  refine LoneTo.step (step_lone_select_send_room (c := d) (z' := .bool false) (v := .bool true) (buf := #[]) (stepG_comm (cases := #[scase d (.bool true) (.bool false)]) (blocking := false) (shape := .select) (w' := w) rfl rfl (by decide) (by simp [go_sem, execOp, rcase, scase, rcaseNil, scaseNil, Act.eval])) hs (by simp)) ?_
  rw [Frame.finish_at]
  walk_nrm
  refine LoneTo.goes (n := 80) ?_
  repeat (first | s_c stepG_seq | s_c stepG_skip | s_reg | s_op | s_c stepG_region_end | s_cond true | s_cond false | s_c stepG_block | s_exit)
  s_c stepG_ret'
  s_stop
  refine LoneTo.done ⟨.returned (.bool true), _, rfl, ⟨rfl, ?_⟩, rfl, rfl, rfl, rfl, _, Try.func29, by simp [results, Try.f29, Frame.at]⟩
  exact ⟨h.shut' _ _, two_setChan2 _ _ _ _ _ _ _ _ _⟩
theorem boxclose_shut (p c d most : Nat) (l : List Int) (w : World) (h : BoxAt w p c d most l true) :
    Calls Try.prog 29 #[.pointer (some ⟨p, 0, none⟩)] w fun e w' => e = .returned (.bool false) ∧ w = w' := by
  have c0 := h.sits.cell 0
  have c1 := h.sits.cell 1
  obtain ⟨s, r, hv⟩ := h.values
  obtain ⟨s2, r2, hs⟩ := h.shut
  simp only [if_true] at hs
  refine calls_of_loneTo fun cs => ?_
  have e : Frame.enter Try.prog 29 #[.pointer (some ⟨p, 0, none⟩)] .normal = (base 29).at ⟨#[.pointer (some ⟨p, 0, none⟩), undef, undef, undef, undef, undef, undef, undef, undef, undef, undef, undef], []⟩ [.code (Try.f29.body.getD .skip)] := by
    simp [Frame.enter, Frame.at, Try.func29, base, Try.f29]
  rw [e]
  refine LoneTo.goes (n := 80) ?_
  simp only [Try.f29, Option.getD_some]
  repeat (first | s_c stepG_seq | s_c stepG_skip | s_reg | s_op | s_c stepG_region_end | s_cond true | s_cond false | s_c stepG_block | s_exit)
  s_stop
  refine LoneTo.step (step_lone_select_send_full (c := d) (z' := .bool false) (v := .bool true) (stepG_comm (cases := #[scase d (.bool true) (.bool false)]) (blocking := false) (shape := .select) (w' := w) rfl rfl (by decide) (by simp [go_sem, execOp, rcase, scase, rcaseNil, scaseNil, Act.eval])) hs (by simp)) ?_
  rw [Frame.finish_at]
  walk_nrm
  refine LoneTo.goes (n := 80) ?_
  repeat (first | s_c stepG_seq | s_c stepG_skip | s_reg | s_op | s_c stepG_region_end | s_cond true | s_cond false | s_c stepG_block | s_exit)
  s_c stepG_ret'
  s_stop
  refine LoneTo.done ⟨.returned (.bool false), _, rfl, ⟨rfl, ?_⟩, rfl, rfl, rfl, rfl, _, Try.func29, by simp [results, Try.f29, Frame.at]⟩
  rfl
theorem boxclose_zero (p : Nat) (w : World) (h : BoxZero w p) :
    Calls Try.prog 29 #[.pointer (some ⟨p, 0, none⟩)] w fun e w' => e = .returned (.bool false) ∧ w = w' := by
  have c1 := h.cell 1
  refine calls_of_loneTo fun cs => ?_
  have e : Frame.enter Try.prog 29 #[.pointer (some ⟨p, 0, none⟩)] .normal = (base 29).at ⟨#[.pointer (some ⟨p, 0, none⟩), undef, undef, undef, undef, undef, undef, undef, undef, undef, undef, undef], []⟩ [.code (Try.f29.body.getD .skip)] := by
    simp [Frame.enter, Frame.at, Try.func29, base, Try.f29]
  rw [e]
  refine LoneTo.goes (n := 80) ?_
  simp only [Try.f29, Option.getD_some]
  repeat (first | s_c stepG_seq | s_c stepG_skip | s_reg | s_op | s_c stepG_region_end | s_cond true | s_cond false | s_c stepG_block | s_exit)
  s_stop
  refine LoneTo.step (step_lone_select_send_nil (z' := .bool false) (v := .bool true) (stepG_comm (cases := #[scaseNil (.bool true) (.bool false)]) (blocking := false) (shape := .select) (w' := w) rfl rfl (by decide) (by simp [go_sem, execOp, rcase, scase, rcaseNil, scaseNil, Act.eval]))) ?_
  rw [Frame.finish_at]
  walk_nrm
  refine LoneTo.goes (n := 80) ?_
  repeat (first | s_c stepG_seq | s_c stepG_skip | s_reg | s_op | s_c stepG_region_end | s_cond true | s_cond false | s_c stepG_block | s_exit)
  s_c stepG_ret'
  s_stop
  refine LoneTo.done ⟨.returned (.bool false), _, rfl, ⟨rfl, ?_⟩, rfl, rfl, rfl, rfl, _, Try.func29, by simp [results, Try.f29, Frame.at]⟩
  rfl
theorem boxclose_nil (w : World) : Calls Try.prog 29 #[.pointer none] w fun e w' => e = .returned (.bool false) ∧ w = w' := by
  go_enter Try.func29, Try.ntmps29
  go_wp2
  go_ret
  exact ⟨rfl, rfl⟩
end Go.Proofs.Ytffgdmdliddlpaa
