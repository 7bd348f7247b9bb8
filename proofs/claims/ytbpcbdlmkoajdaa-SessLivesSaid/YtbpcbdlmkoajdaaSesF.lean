/- Package sess: lists of frames of the call's own; a loop over the ring beside such a list. -/
import Derived.Test.YtbpcbdlmkoajdaaSesE
namespace Go.Proofs.Ytbpcbdlmkoajdaa
open Go Go.RowKit Go.Maps SesP
set_option maxRecDepth 100000
set_option maxHeartbeats 1000000
set_option linter.unusedSimpArgs false

theorem info_frm : (Try.prog.info? 34).map (fun i => (i.zero, i.size, i.bytes)) = some (some (.agg #[.int .i64 0, .int .i64 0, .int .i64 0, .int .i64 0, .int .i64 0, .int .i64 0, .string ⟨#[]⟩, .bool false]), 8, 72) := by kernel_rfl
theorem elem_frm : Elem Try.prog 26 34 (.agg #[.int .i64 0, .int .i64 0, .int .i64 0, .int .i64 0, .int .i64 0, .int .i64 0, .string ⟨#[]⟩, .bool false]) 8 72 := ⟨Try.underlying26, info_frm, rfl, by omega⟩
def cellsF (l : List Frm) : List Value := l.flatMap frmCells
theorem cellsF_length (l : List Frm) : (cellsF l).length = l.length * 8 := by
  induction l with
  | nil => rfl
  | cons x l ih => simp only [cellsF, List.flatMap_cons, List.length_append] at ih ⊢; rw [ih]; simp [frmCells]; omega
theorem cellsF_append (l r : List Frm) : cellsF (l ++ r) = cellsF l ++ cellsF r := by simp [cellsF]
theorem cellsF_one (l : List Frm) : ∀ u ∈ cellsF l, u.oneCell' = true := by
  intro u hu
  simp only [cellsF, List.mem_flatMap] at hu
  obtain ⟨x, _, hx⟩ := hu
  simp [frmCells] at hx
  rcases hx with rfl | rfl | rfl | rfl | rfl | rfl | rfl | rfl <;> rfl
/-- A list of frames of the call's own. -/
abbrev FRow (w : World) (base : Nat) (v : Value) (l : List Frm) : Prop := RowAt w base 34 8 v l.length (cellsF l)
/-- One more frame is appended. -/
theorem pushF_one {W : World} {base : Nat} {v : Value} {l : List Frm} (h : FRow W base v l) (x : Frm) (hb : base ≤ W.heap.size) (hl : l.length ≤ 1000000) (ty : TypeId) :
    ∃ A cap W', (Builtin.append_ #[26, 26] ty #[v, .slice (some ⟨W.heap.size, 0, none⟩) 1 1]).run Try.prog (W.alloc (.cells #[.int .i64 x.f, .int .i64 x.t, .int .i64 x.m, .int .i64 x.y, .int .i64 x.s, .int .i64 x.a, .string (str x.d), .bool x.h] 34)) = .ok (.slice A ((l.length + 1 : Nat)) cap) W' ∧
      FRow W' base (.slice A ((l.length + 1 : Nat)) cap) (l ++ [x]) ∧ Below base W W' ∧ Many (fun k => v.ownBlock = some k) W W' := by
  have hmx : maxLen = 9223372036854775807 := by decide
  have hal : Below W.heap.size W (W.alloc (.cells #[.int .i64 x.f, .int .i64 x.t, .int .i64 x.m, .int .i64 x.y, .int .i64 x.s, .int .i64 x.a, .string (str x.d), .bool x.h] 34)) := (Below.refl _ W).alloc (Nat.le_refl _) _
  have h2 := h.below hal
  have hsrc : Src Try.prog 8 26 (.slice (some ⟨W.heap.size, 0, none⟩) 1 1) 1 (cellsF [x]) (W.alloc (.cells #[.int .i64 x.f, .int .i64 x.t, .int .i64 x.m, .int .i64 x.y, .int .i64 x.s, .int .i64 x.a, .string (str x.d), .bool x.h] 34)) := src_slice Try.underlying26 rfl (fun _ => ⟨W.heap.size, 0, rfl, fun j u hu => by
    rw [Nat.zero_add, (Sits.fresh W 34 _).cell j]
    simpa [cellsF, frmCells] using hu⟩) (cellsF_one [x])
  obtain ⟨v3, w3, hr3, hX4, gr3, at3⟩ := appendAt_src elem_frm h2 hsrc ty (by omega) (by omega) (by rw [World.size_alloc]; omega)
  have e1 : (l ++ [x]).length = l.length + 1 := by simp
  have hX5 : FRow w3 base v3 (l ++ [x]) := by
    show RowAt w3 base 34 8 v3 (l ++ [x]).length (cellsF (l ++ [x]))
    rw [e1, cellsF_append]
    exact hX4
  obtain ⟨A3, c3, hv3, h31, h32, _, _⟩ := hX5.form
  rw [e1] at hv3
  subst hv3
  exact ⟨A3, c3, w3, hr3, hX5, ((Below.refl base W).alloc hb _).grown gr3 (by rw [World.size_alloc]; omega) (fun k hk => (h2.lt k hk).1), ((Many.refl _ W).alloc _).grown gr3 fun b hb => hb⟩
section
variable {g p q m nn c : Nat} {s : Ses} {S : Nat → Prop} {w w' : World}
/-- Its ring has turned in its own cells. -/
theorem SR.turn0 (h : SR g p q m nn s S w) {W : List Msg} (hr : RingM w' p q 64 W) (ht : Two p q w w') :
    SR g p q m nn { s with W := W } S w' ∧ Many S w w' := by
  obtain ⟨h1, h2, h3, h4, h5⟩ := h.ne
  exact ⟨⟨(ht.block g h.sits.lt h1 h2).trans h.sits, hr, h.map.keep (ht.block m h.map.lt h4 h5), h.g, h.p, h.q, h.m⟩,
    ⟨ht.os, ht.tape, ht.output, ht.size, fun k hk hn => ht.block k hk (fun e => hn (e ▸ h.p)) (fun e => hn (e ▸ h.q))⟩⟩
/-- What a loop over the ring has beside a list of frames of its own: the session lies below B, the ring's list at b, the first k are turned, L are the frames so far. -/
structure LoopQ (g p q m nn : Nat) (s : Ses) (S : Nat → Prop) (w : World) (f : Msg → Msg) (l : List Msg) (b k : Nat) (v : Value) (L : List Frm) (W : World) : Prop where
  sr : SR g p q m nn { s with W := turnK f l k } (fun i => S i ∧ i < w.heap.size) W
  list : Sits W b 46 (cellsM l).toArray
  low : w.heap.size ≤ b
  row : FRow W w.heap.size v L
  many : Many S w W
theorem LoopQ.below {f : Msg → Msg} {l : List Msg} {b k : Nat} {v : Value} {L : List Frm} {W W' : World} (h : LoopQ g p q m nn s S w f l b k v L W) (hb : Below W.heap.size W W') : LoopQ g p q m nn s S w f l b k v L W' :=
  ⟨h.sr.below hb, h.list.below' hb, h.low, h.row.below hb, h.many.trans (Many.of_below S hb)⟩
theorem LoopQ.set {f : Msg → Msg} {l : List Msg} {b k : Nat} {v : Value} {L : List Frm} {W : World} (h : LoopQ g p q m nn s S w f l b k v L W) (hk : k < l.length) (x : Msg) (hx : x = f l[k]) :
    Calls Try.prog 20 #[.pointer (some ⟨p, 0, none⟩), .int .i64 k, .agg #[.string (str x.d), .int .i64 (x.l : Int)]] W fun e w' => e = .returned (.bool true) ∧ LoopQ g p q m nn s S w f l b (k + 1) v L w' := by
  have hbl := h.list.lt
  have hlow := h.low
  refine (setM_in p q 64 (turnK f l k) k x W h.sr.ring (by rw [turnK_len f l k (by omega)]; exact hk)).mono ?_
  rintro e w' ⟨rfl, hr, ht⟩
  have h1 := h.sr.turn0 hr ht
  rw [hx, turnK_step f l k hk] at h1
  exact ⟨rfl, h1.1, (h1.2.block b hbl (fun e => by have := e.2; omega)).trans h.list, h.low, h.row.keep fun i hi => h1.2.block i (h.row.lt i hi).2 (fun e => by have := e.2; have := (h.row.lt i hi).1; omega), h.many.trans (h1.2.mono fun i _ hi => hi.1)⟩
/-- The list of what waits is taken. -/
theorem LoopQ.start {f : Msg → Msg} {l : List Msg} {W : World} (h : SR g p q m nn { s with W := l } (fun i => S i ∧ i < w.heap.size) W) (hm : Many S w W) :
    Calls Try.prog 19 #[.pointer (some ⟨p, 0, none⟩)] W fun e w' => ∃ b, e = .returned (.slice (some ⟨b, 0, none⟩) l.length l.length) ∧ LoopQ g p q m nn s S w f l b 0 (.slice none 0 0) [] w' := by
  refine (listM_any p q 64 l W h.ring).mono ?_
  rintro e w' ⟨rfl, hs, hb⟩
  refine ⟨_, rfl, ?_, hs, hm.size, RowAt.nil _ _ _ _, hm.trans (Many.of_below S hb)⟩
  rw [turnK_zero]
  exact h.below hb
/-- A frame is appended. -/
theorem LoopQ.push {f : Msg → Msg} {l : List Msg} {b k : Nat} {v : Value} {L : List Frm} {W : World} (hS : ∀ i, w.heap.size ≤ i → S i) (h : LoopQ g p q m nn s S w f l b k v L W) (x : Frm) (hl : L.length ≤ 1000000) (ty : TypeId) :
    ∃ A cap W', (Builtin.append_ #[26, 26] ty #[v, .slice (some ⟨W.heap.size, 0, none⟩) 1 1]).run Try.prog (W.alloc (.cells #[.int .i64 x.f, .int .i64 x.t, .int .i64 x.m, .int .i64 x.y, .int .i64 x.s, .int .i64 x.a, .string (str x.d), .bool x.h] 34)) = .ok (.slice A ((L.length + 1 : Nat)) cap) W' ∧
      LoopQ g p q m nn s S w f l b k (.slice A ((L.length + 1 : Nat)) cap) (L ++ [x]) W' ∧ Many (fun i => v.ownBlock = some i) W W' := by
  obtain ⟨A, cap, W', hrun, hrow, hb, hm⟩ := pushF_one h.row x h.many.size hl ty
  refine ⟨A, cap, W', hrun, ⟨h.sr.keep fun i hi _ => hb.block i hi.2, ?_, h.low, hrow, h.many.trans (hm.mono fun i hi e => hS i (h.row.lt i e).1)⟩, hm⟩
  refine (hm.block b h.list.lt fun e => ?_).trans h.list
  obtain ⟨cur, hc⟩ := h.row.sits b e
  exact absurd rfl (h.list.apart hc (by decide))
end
namespace SesP
theorem outL_append (s : Ses) : ∀ (l : List Msg) (i : Nat) (x : Msg), outL s i (l ++ [x]) = outL s i l ++ (if x.l = 0 then [msgF s (i + l.length) x.d] else [])
  | [], i, x => by simp only [List.nil_append, outL, List.length_nil, Nat.add_zero]
  | y :: l, i, x => by
    have e : i + 1 + l.length = i + (l.length + 1) := by omega
    simp only [List.cons_append, outL, List.length_cons, outL_append s l (i + 1) x, e]
    split <;> simp
theorem outL_len (s : Ses) : ∀ (l : List Msg) (i : Nat), (outL s i l).length ≤ l.length
  | [], i => by simp [outL]
  | y :: l, i => by
    have := outL_len s l (i + 1)
    unfold outL
    split
    · simp only [List.length_cons]; omega
    · simp only [List.length_cons]; omega
end SesP
end Go.Proofs.Ytbpcbdlmkoajdaa
